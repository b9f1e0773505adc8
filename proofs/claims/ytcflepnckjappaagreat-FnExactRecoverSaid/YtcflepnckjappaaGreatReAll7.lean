/-
  ScS, ScT, ScC, SecM, DevA, DevD, DevW, DevB, FlashOK, DevO, Buf, AppZ, SpecPut, LitA, SpecRead, ReadD, ScE, ReT, HmA, HmB, PuW, PrA, PgC, PgT, PgG in one.
-/
import Derived.Test.YtcflepnckjappaaGreatReAll6
import Derived.Deep.DeepCutAuto
import Derived.Test.YtcflepnckjappaaGreatImC
import Derived.Test.YtcflepnckjappaaGreatReAll2
import Derived.Test.YtcflepnckjappaaGreatOwn
import Derived.Maps.OwnOps
import Derived.Maps.OwnSet
import Derived.MapKept
import Derived.Laws.Externs
import Derived.Deep.MidRow
import Derived.Deep.RegionWith
import Derived.Deep.RegionLaw
import Derived.Laws.Cover3
import Derived.Deep.WholeRow
import Derived.Laws.CopyRow
import Derived.Lib.AppendZerosOnto
import Derived.Test.YtcflepnckjappaaGreatReAll3
import Derived.Laws.AppendOwnNone
import Derived.Test.YtcflepnckjappaaGreatScL
import Derived.Test.YtcflepnckjappaaGreatVrT
import Derived.Test.YtcflepnckjappaaGreatVrL
import Derived.Test.YtcflepnckjappaaGreatReAll1
import Derived.Test.YtcflepnckjappaaGreatWrT
import Derived.Test.YtcflepnckjappaaGreatTakes
import Derived.Deep.Cut
import Derived.Test.YtcflepnckjappaaGreatKdA
import Derived.Test.YtcflepnckjappaaGreatReAll4
import Derived.Lib.AppendZeros
namespace Go.Proofs.YtcflepnckjappaaGreat
open Go.RowKit

/-- What l03Next gives. -/
def NxRes (xs : List Int) (p : Nat) (w : World) (e : Ending) (w' : World) : Prop :=
  (nextI xs p = none ∧ e = .returned (.tuple #[iv 0 false none 0 0, .bool false]) ∧ Below w.heap.size w w') ∨
  ∃ x g cap, nextI xs p = some x ∧ e = .returned (.tuple #[iv x.id x.gone (some ⟨g, 0, none⟩) x.xs.length cap, .bool true]) ∧ Owns w' w.heap.size (.slice (some ⟨g, 0, none⟩) x.xs.length cap) x.xs ∧ Below w.heap.size w w'
theorem sc_stepConv {P : Program} {ops : Array Oper} {o : Oper} {a : Act} {w : World} {K : Act → World → Prop} {Q : Exit → Act → World → Prop} {E : Prop}
    (hw : Region.wanted o (yielded ops a.tmps) = true) (x : Operand) (s t : TypeId) (hop : o.op = Op.convert s t x) (vx v' : Value) (hx : a.eval x = vx) (hrun : (convert s t vx).run P w = .ok v' w) (hK : K (a.put o.dst v') w) :
    if Region.wanted o (yielded ops a.tmps) = true then Oper.wp P o a w K Q else E := by
  rw [if_pos hw]
  unfold Oper.wp
  simp [execOp, hop, hx, hrun, Result.andThen]
  exact hK
set_option maxRecDepth 100000 in
set_option maxHeartbeats 8000000 in
theorem l03Next_any (a : Option Addr) (n c p : Nat) (xs : List Int) (w : World) (hR : Row w a n xs) (h8 : Bytes8 xs) (hp : p ≤ n) (hn : n ≤ 65536) (hc : n ≤ c) (_hc2 : c ≤ maxLen) :
    Calls Tryz.prog 133 #[.slice a n c, .int .i64 (p : Int)] w fun e w' => NxRes xs p w e w' := by
  unfold maxLen at _hc2
  obtain rfl := hR.1
  have b0 : Below w.heap.size w (w.alloc (.cells #[.int .i64 0, .bool false, .slice none 0 0] 72)) := (Below.refl _ _).alloc (Nat.le_refl _) _
  have KR := hide (heap_alloc_new w (.cells #[.int .i64 0, .bool false, .slice none 0 0] 72))
  have zs : (w.alloc (.cells #[.int .i64 0, .bool false, .slice none 0 0] 72)).heap.size = w.heap.size + 1 := by simp
  have q3 : w.heap.size ≤ w.heap.size := Nat.le_refl _
  have SB : ∀ u : World, Below w.heap.size w u → Below w.heap.size w (((u.setCell ⟨w.heap.size, 0, none⟩ (.int .i64 0)).setCell ⟨w.heap.size, 1, none⟩ (.bool false)).setCell ⟨w.heap.size, 2, none⟩ (.slice none 0 0)) := fun u hu => ((hu.setCell (p := ⟨w.heap.size, 0, none⟩) q3 _).setCell (p := ⟨w.heap.size, 1, none⟩) q3 _).setCell (p := ⟨w.heap.size, 2, none⟩) q3 _
  have NO := hide (show ∀ u : World, nextI xs p = none → Below w.heap.size w u → NxRes xs p w (.returned (.tuple #[iv 0 false none 0 0, .bool false])) u from fun u h hu => .inl ⟨h, rfl, hu⟩)
  have wr9 : IntKind.i64.wrap ((p : Int) + 9) = (p : Int) + 9 := by rw [IntKind.wrap_i64]; omega
  by_cases h9 : ¬ (p + 9 ≤ xs.length)
  · have g9 : (xs.length : Int) < (p : Int) + 9 := by omega
    have NN := hide (next_no9 (b := xs) (p := p) (fun h => h9 h.1))
    clear hR h8
    go_enter Tryz.func133, Tryz.ntmps133
    go_wp2_with fail
    generalize w.alloc (.cells #[.int .i64 0, .bool false, .slice none 0 0] 72) = W at *
    have y0 : W.cell? ⟨w.heap.size, 0, none⟩ = some (.int .i64 0) := (heap_at (unhide KR) 0).1
    have y1 : W.cell? ⟨w.heap.size, 1, none⟩ = some (.bool false) := (heap_at (unhide KR) 1).1
    have y2 : W.cell? ⟨w.heap.size, 2, none⟩ = some (.slice none 0 0) := (heap_at (unhide KR) 2).1
    have f0 : W.frozen? ⟨w.heap.size, 0, none⟩ = false := (heap_at (unhide KR) 0).2
    have f1 : W.frozen? ⟨w.heap.size, 1, none⟩ = false := (heap_at (unhide KR) 1).2
    have f2 : W.frozen? ⟨w.heap.size, 2, none⟩ = false := (heap_at (unhide KR) 2).2
    go_wp2_with fail
    refine bodyPost_ret (v := .tuple #[iv 0 false none 0 0, .bool false]) (by unfold iv; simp [results, Tryz.results133, go_sem, *] <;> rfl) rfl ?_
    first | exact unhide NO _ (unhide NN) b0 | exact unhide NO _ (unhide NN) (SB _ b0)
  replace h9 := Decidable.not_not.1 h9
  have g9 : ¬ ((xs.length : Int) < (p : Int) + 9) := by omega
  obtain ⟨b, off, rfl, _⟩ := hR.2 0 (by omega)
  have CELL := hide (show ∀ j, j < xs.length → ∀ u, Below w.heap.size w u → u.cell? ⟨b, off + j, none⟩ = some (.int .u8 (xs.getD j 0)) from fun j hj u hu => by
    obtain ⟨b', off', e, hcell⟩ := (row_grow' hR hu).2 j hj
    cases e
    exact hcell)
  have i0 : (0 : Int) ≤ (p : Int) := by omega
  have i1 : (p : Int) < (xs.length : Int) := by omega
  have mb := getD_bytes h8 p
  by_cases hmk : ¬ (xs.getD p 0 = 1 ∨ xs.getD p 0 = 2)
  · have NN := hide (next_no9 (b := xs) (p := p) (fun h => hmk h.2.1))
    have cm := unhide CELL p (by omega) _ b0
    have g1 : xs.getD p 0 < 1 ∨ 2 < xs.getD p 0 := by omega
    generalize xs.getD p 0 = mk at *
    clear hR h8 CELL
    rcases g1 with g1 | g1
    · go_enter Tryz.func133, Tryz.ntmps133
      go_wp2_with fail
      generalize w.alloc (.cells #[.int .i64 0, .bool false, .slice none 0 0] 72) = W at *
      have y0 : W.cell? ⟨w.heap.size, 0, none⟩ = some (.int .i64 0) := (heap_at (unhide KR) 0).1
      have y1 : W.cell? ⟨w.heap.size, 1, none⟩ = some (.bool false) := (heap_at (unhide KR) 1).1
      have y2 : W.cell? ⟨w.heap.size, 2, none⟩ = some (.slice none 0 0) := (heap_at (unhide KR) 2).1
      have f0 : W.frozen? ⟨w.heap.size, 0, none⟩ = false := (heap_at (unhide KR) 0).2
      have f1 : W.frozen? ⟨w.heap.size, 1, none⟩ = false := (heap_at (unhide KR) 1).2
      have f2 : W.frozen? ⟨w.heap.size, 2, none⟩ = false := (heap_at (unhide KR) 2).2
      go_wp2_with fail
      refine bodyPost_ret (v := .tuple #[iv 0 false none 0 0, .bool false]) (by unfold iv; simp [results, Tryz.results133, go_sem, *] <;> rfl) rfl ?_
      first | exact unhide NO _ (unhide NN) b0 | exact unhide NO _ (unhide NN) (SB _ b0)
    · have g2 : ¬ mk < 1 := by omega
      go_enter Tryz.func133, Tryz.ntmps133
      go_wp2_with fail
      generalize w.alloc (.cells #[.int .i64 0, .bool false, .slice none 0 0] 72) = W at *
      have y0 : W.cell? ⟨w.heap.size, 0, none⟩ = some (.int .i64 0) := (heap_at (unhide KR) 0).1
      have y1 : W.cell? ⟨w.heap.size, 1, none⟩ = some (.bool false) := (heap_at (unhide KR) 1).1
      have y2 : W.cell? ⟨w.heap.size, 2, none⟩ = some (.slice none 0 0) := (heap_at (unhide KR) 2).1
      have f0 : W.frozen? ⟨w.heap.size, 0, none⟩ = false := (heap_at (unhide KR) 0).2
      have f1 : W.frozen? ⟨w.heap.size, 1, none⟩ = false := (heap_at (unhide KR) 1).2
      have f2 : W.frozen? ⟨w.heap.size, 2, none⟩ = false := (heap_at (unhide KR) 2).2
      go_wp2_with fail
      refine bodyPost_ret (v := .tuple #[iv 0 false none 0 0, .bool false]) (by unfold iv; simp [results, Tryz.results133, go_sem, *] <;> rfl) rfl ?_
      first | exact unhide NO _ (unhide NN) b0 | exact unhide NO _ (unhide NN) (SB _ b0)
  replace hmk := Decidable.not_not.1 hmk
  have wr3 : IntKind.i64.wrap ((p : Int) + 3) = (p : Int) + 3 := by rw [IntKind.wrap_i64]; omega
  have wr4 : IntKind.i64.wrap ((p : Int) + 4) = (p : Int) + 4 := by rw [IntKind.wrap_i64]; omega
  have wl : IntKind.i64.wrap (xs.getD (p + 3) 0) = xs.getD (p + 3) 0 := by have := getD_bytes h8 (p + 3); rw [IntKind.wrap_i64]; omega
  have wl2 : IntKind.i64.wrap (xs.getD (p + 4) 0) = xs.getD (p + 4) 0 := by have := getD_bytes h8 (p + 4); rw [IntKind.wrap_i64]; omega
  have wl3 : IntKind.i64.wrap (xs.getD (p + 3) 0 * 256) = xs.getD (p + 3) 0 * 256 := by have := getD_bytes h8 (p + 3); rw [IntKind.wrap_i64]; omega
  have wl4 : IntKind.i64.wrap (xs.getD (p + 3) 0 * 256 + xs.getD (p + 4) 0) = (lenAt xs p : Int) := by have h3 := getD_bytes h8 (p + 3); have h4 := getD_bytes h8 (p + 4); rw [lenAt_eq h8, IntKind.wrap_i64]; omega
  have LE := lenAt_le h8 p
  have c3 := unhide CELL (p + 3) (by omega) _ b0
  have c4 := unhide CELL (p + 4) (by omega) _ b0
  have cm := unhide CELL p (by omega) _ b0
  have i3 : (0 : Int) ≤ (p : Int) + 3 := by omega
  have i3' : (p : Int) + 3 < (xs.length : Int) := by omega
  have i3t : ((p : Int) + 3).toNat = p + 3 := by omega
  have i4 : (0 : Int) ≤ (p : Int) + 4 := by omega
  have i4' : (p : Int) + 4 < (xs.length : Int) := by omega
  have i4t : ((p : Int) + 4).toNat = p + 4 := by omega
  have gm1 : ¬ xs.getD p 0 < 1 := by omega
  have gm2 : ¬ 2 < xs.getD p 0 := by omega
  have LQ := hide (lenAt_eq h8 p)
  have NN6 := hide (show ¬ p + 9 + lenAt xs p ≤ xs.length → nextI xs p = none from fun h => next_no9 (fun k => h k.2.2))
  obtain ⟨mk, hM⟩ : ∃ mk, mk = xs.getD p 0 := ⟨_, rfl⟩
  rw [← hM] at cm gm1 gm2 hmk mb
  have HM := hide hM
  clear hM
  generalize xs.getD (p + 3) 0 = m3 at c3 wl wl3 wl4
  generalize xs.getD (p + 4) 0 = m4 at c4 wl2 wl4
  generalize hln : lenAt xs p = sz at wl4
  go_enter Tryz.func133, Tryz.ntmps133
  go_wp2_with fail
  generalize hW1 : w.alloc (.cells #[.int .i64 0, .bool false, .slice none 0 0] 72) = w1 at *
  go_quiet (fail)
  generalize hD1 : w1.drewN _ = w2 at *
  have B2 : Below w.heap.size w w2 := by rw [← hD1]; exact bel_drewN b0 _
  have K2 := hide (show w2.heap[w.heap.size]? = some (.cells #[.int .i64 0, .bool false, .slice none 0 0] 72 (0, 0)) by rw [← hD1]; exact unhide KR)
  have z2 : w.heap.size < w2.heap.size := by rw [← hD1]; show w.heap.size < w1.heap.size; omega
  subst hln
  clear KR hD1 hW1 c3 c4 cm wl wl2 wl3 wl4 i3 i3' i3t i4 i4' i4t wr3 wr4 b0 zs LQ
  by_cases h6 : ¬ (p + 9 + lenAt xs p ≤ xs.length)
  · have NN := hide (unhide NN6 h6)
    generalize lenAt xs p = sz at *
    have g6 : (xs.length : Int) < (p : Int) + 9 + (sz : Int) := by omega
    have wr5 : IntKind.i64.wrap ((p : Int) + 9 + (sz : Int)) = (p : Int) + 9 + (sz : Int) := by rw [IntKind.wrap_i64]; omega
    clear hR h8 CELL NN6
    have y0 : w2.cell? ⟨w.heap.size, 0, none⟩ = some (.int .i64 0) := (heap_at (unhide K2) 0).1
    have y1 : w2.cell? ⟨w.heap.size, 1, none⟩ = some (.bool false) := (heap_at (unhide K2) 1).1
    have y2 : w2.cell? ⟨w.heap.size, 2, none⟩ = some (.slice none 0 0) := (heap_at (unhide K2) 2).1
    have f0 : w2.frozen? ⟨w.heap.size, 0, none⟩ = false := (heap_at (unhide K2) 0).2
    have f1 : w2.frozen? ⟨w.heap.size, 1, none⟩ = false := (heap_at (unhide K2) 1).2
    have f2 : w2.frozen? ⟨w.heap.size, 2, none⟩ = false := (heap_at (unhide K2) 2).2
    go_wp2_with fail
    refine bodyPost_ret (v := .tuple #[iv 0 false none 0 0, .bool false]) (by unfold iv; simp [results, Tryz.results133, go_sem, *] <;> rfl) rfl ?_
    exact unhide NO _ (unhide NN) (SB _ B2)
  replace h6 := Decidable.not_not.1 h6
  have h5 : p + 5 + lenAt xs p ≤ xs.length := by omega
  have XL := imAt_len h5
  have XB := hide (imAt_bytes h8 p)
  have XI := imAt_id h8 p
  have NN3 := hide (show (imAt xs p).ok = false → nextI xs p = none from fun h3 => next_no (fun h => by rw [h3] at h; exact absurd h.2.2.1 (by decide)))
  have NN4 := hide (show ¬ (xs.drop p).take ((imAt xs p).xs.length + 9) = (imAt xs p).by → nextI xs p = none from fun h3 => next_no (fun h => h3 (by rw [XL]; exact h.2.2.2)))
  have NY4 := hide (show (imAt xs p).ok = true → (xs.drop p).take ((imAt xs p).xs.length + 9) = (imAt xs p).by → nextI xs p = some (imAt xs p) from fun h3 h4 => next_yes (by omega) h5 h3 (by rw [XL] at h4; exact h4))
  have XR := hide (show ∀ u, Below w.heap.size w u → Row u (some ⟨b, off + (p + 5), none⟩) (imAt xs p).xs.length (imAt xs p).xs from fun u hu => by
    rw [XL]
    exact sc_row_take (sc_row_drop (row_grow' hR hu) (p + 5)) (by omega))
  have XP := hide (show ∀ u, Below w.heap.size w u → Row u (some ⟨b, off + p, none⟩) ((imAt xs p).xs.length + 9) ((xs.drop p).take ((imAt xs p).xs.length + 9)) from fun u hu => sc_row_take (sc_row_drop (row_grow' hR hu) p) (by omega))
  have XG := hide (show (imAt xs p).gone = decide (xs.getD p 0 = 2) from rfl)
  have XD := hide (show (imAt xs p).id = xs.getD (p + 1) 0 * 256 + xs.getD (p + 2) 0 from rfl)
  have HD := hide (show Bytes8 ((xs.drop p).take ((imAt xs p).xs.length + 9)) from bytes8_drop h8 _ _)
  have m1b := getD_bytes h8 (p + 1)
  have m2b := getD_bytes h8 (p + 2)
  have C0 := hide (unhide CELL p (by omega))
  have C1 := hide (unhide CELL (p + 1) (by omega))
  have C2 := hide (unhide CELL (p + 2) (by omega))
  obtain ⟨X, hX⟩ : ∃ X, X = imAt xs p := ⟨_, rfl⟩
  rw [← hX] at XL XB XI NN3 NN4 NY4 XR XP XG XD HD
  generalize lenAt xs p = sz at *
  subst XL
  clear hX hR h8 CELL NN6 h5
  rw [← unhide HM] at XG C0
  clear HM
  generalize xs.getD (p + 1) 0 = m1 at *
  generalize xs.getD (p + 2) 0 = m2 at *
  generalize hYs : (xs.drop p).take (X.xs.length + 9) = Ys at *
  clear hYs
  generalize hnn : xs.length = n at *
  clear hnn
  have wr5 : IntKind.i64.wrap ((p : Int) + 9 + (X.xs.length : Int)) = (p : Int) + 9 + (X.xs.length : Int) := by rw [IntKind.wrap_i64]; omega
  have g6 : ¬ ((n : Int) < (p : Int) + 9 + (X.xs.length : Int)) := by omega
  have wra : IntKind.i64.wrap ((p : Int) + 1) = (p : Int) + 1 := by rw [IntKind.wrap_i64]; omega
  have wrb : IntKind.i64.wrap ((p : Int) + 2) = (p : Int) + 2 := by rw [IntKind.wrap_i64]; omega
  have wrc : IntKind.i64.wrap ((p : Int) + 5) = (p : Int) + 5 := by rw [IntKind.wrap_i64]; omega
  have wrd : IntKind.i64.wrap ((p : Int) + 5 + (X.xs.length : Int)) = (p : Int) + 5 + (X.xs.length : Int) := by rw [IntKind.wrap_i64]; omega
  have wre : IntKind.i64.wrap m1 = m1 := by rw [IntKind.wrap_i64]; omega
  have wrf : IntKind.i64.wrap m2 = m2 := by rw [IntKind.wrap_i64]; omega
  have wrg : IntKind.i64.wrap (m1 * 256) = m1 * 256 := by rw [IntKind.wrap_i64]; omega
  have wrh : IntKind.i64.wrap (m1 * 256 + m2) = X.id := by rw [unhide XD, IntKind.wrap_i64]; omega
  have j1 : (0 : Int) ≤ (p : Int) + 1 := by omega
  have j1' : (p : Int) + 1 < (n : Int) := by omega
  have j1t : ((p : Int) + 1).toNat = p + 1 := by omega
  have j2 : (0 : Int) ≤ (p : Int) + 2 := by omega
  have j2' : (p : Int) + 2 < (n : Int) := by omega
  have j2t : ((p : Int) + 2).toNat = p + 2 := by omega
  have j5 : (0 : Int) ≤ (p : Int) + 5 := by omega
  have j5' : (p : Int) + 5 ≤ (p : Int) + 5 + (X.xs.length : Int) := by omega
  have j6 : (p : Int) + 5 + (X.xs.length : Int) ≤ (c : Int) := by omega
  have j6' : (0 : Int) ≤ (p : Int) + 5 + (X.xs.length : Int) := by omega
  have j7 : ((p : Int) + 5).toNat = p + 5 := by omega
  have j8 : ((p : Int) + 5 + (X.xs.length : Int)).toNat = p + 5 + X.xs.length := by omega
  have j9 : p + 5 + X.xs.length - (p + 5) = X.xs.length := by omega
  have ja : max ((p : Int) + 5 + (X.xs.length : Int)) 0 = (p : Int) + 5 + (X.xs.length : Int) := by omega
  have jb : ¬ c = p + 5 := by omega
  have hgx : (mk == 2) = X.gone := (unhide XG).symm
  go_upto_region 6 with fail
  go_cut [7] (fun v wc => ∃ xb g cp, v = .pointer (some ⟨xb, 0, none⟩) ∧ Hid (ImBox w2 w2.heap.size xb g cp X wc))
  case first =>
    have SK := hide (show ∀ u, Below w2.heap.size w2 u → (fun u => Below w2.heap.size w2 u ∧ u.cell? ⟨b, off + p, none⟩ = some (.int .u8 mk) ∧ u.cell? ⟨b, off + (p + 1), none⟩ = some (.int .u8 m1) ∧ u.cell? ⟨b, off + (p + 2), none⟩ = some (.int .u8 m2)) u from fun u hu => ⟨hu, unhide C0 u (B2.trans (hu.mono B2.size)), unhide C1 u (B2.trans (hu.mono B2.size)), unhide C2 u (B2.trans (hu.mono B2.size))⟩)
    have AP := hide (fun (u : World) (q : Nat) (hu : Below w2.heap.size w2 u) (hO : Owns u w2.heap.size (.slice (some ⟨q, 0, none⟩) 0 0) []) => sc_copy2 (c := c - (p + 5)) 22 hO (unhide XR u (B2.trans (hu.mono B2.size))) (by omega) hu.size)
    have D0 := hide (show Below w2.heap.size w2 w2.drew from (Below.refl _ _).drew)
    refine wp_region_held_drew (S := (fun u => Below w2.heap.size w2 u ∧ u.cell? ⟨b, off + p, none⟩ = some (.int .u8 mk) ∧ u.cell? ⟨b, off + (p + 1), none⟩ = some (.int .u8 m1) ∧ u.cell? ⟨b, off + (p + 2), none⟩ = some (.int .u8 m2))) (by kernel_rfl) (unhide SK _ (unhide D0)) (fun hHeld => ?_)
    refine anyH_take 0 50 (v := ?v1) rfl rfl (by kernel_rfl) (by kernel_rfl) (by kernel_rfl) (fun _ _ _ h => h) (by rfl) ?h1 hHeld ?r1
    case h1 => (intro w hSw; (try dsimp only at hSw); go_simp; try (with_reducible rfl))
    simp only [Act.put, List.setIfInBounds_toArray, List.set_cons_zero, List.set_cons_succ]
    refine anyH_take 1 51 (v := ?v2) rfl rfl (by kernel_rfl) (by kernel_rfl) (by kernel_rfl) (fun _ _ _ h => h) (by rfl) ?h2 hHeld ?r2
    case h2 => (intro w hSw; (try dsimp only at hSw); go_simp; try (with_reducible rfl))
    simp only [Act.put, List.setIfInBounds_toArray, List.set_cons_zero, List.set_cons_succ]
    refine anyH_take 2 52 (v := ?v3) rfl rfl (by kernel_rfl) (by kernel_rfl) (by kernel_rfl) (fun _ _ _ h => h) (by rfl) ?h3 hHeld ?r3
    case h3 => (intro w hSw; (try dsimp only at hSw); go_simp; try (with_reducible rfl))
    simp only [Act.put, List.setIfInBounds_toArray, List.set_cons_zero, List.set_cons_succ]
    refine anyH_take 3 53 (v := ?v4) rfl rfl (by kernel_rfl) (by kernel_rfl) (by kernel_rfl) (fun _ _ _ h => h) (by rfl) ?h4 hHeld ?r4
    case h4 => (intro w hSw; (try dsimp only at hSw); go_simp; try (with_reducible rfl))
    simp only [Act.put, List.setIfInBounds_toArray, List.set_cons_zero, List.set_cons_succ]
    refine anyH_take 4 54 (v := ?v5) rfl rfl (by kernel_rfl) (by kernel_rfl) (by kernel_rfl) (fun _ _ _ h => h) (by rfl) ?h5 hHeld ?r5
    case h5 => (intro w hSw; (try dsimp only at hSw); go_simp; try (with_reducible rfl))
    simp only [Act.put, List.setIfInBounds_toArray, List.set_cons_zero, List.set_cons_succ]
    refine anyH_take 5 55 (v := ?v6) rfl rfl (by kernel_rfl) (by kernel_rfl) (by kernel_rfl) (fun _ _ _ h => h) (by rfl) ?h6 hHeld ?r6
    case h6 => (intro w hSw; (try dsimp only at hSw); go_simp; try (with_reducible rfl))
    simp only [Act.put, List.setIfInBounds_toArray, List.set_cons_zero, List.set_cons_succ]
    refine anyH_take 6 56 (v := ?v7) rfl rfl (by kernel_rfl) (by kernel_rfl) (by kernel_rfl) (fun _ _ _ h => h) (by rfl) ?h7 hHeld ?r7
    case h7 => (intro w hSw; (try dsimp only at hSw); go_simp; try (with_reducible rfl))
    simp only [Act.put, List.setIfInBounds_toArray, List.set_cons_zero, List.set_cons_succ]
    refine anyH_take 7 57 (v := ?v8) rfl rfl (by kernel_rfl) (by kernel_rfl) (by kernel_rfl) (fun _ _ _ h => h) (by rfl) ?h8 hHeld ?r8
    case h8 => (intro w hSw; (try dsimp only at hSw); go_simp; try (with_reducible rfl))
    simp only [Act.put, List.setIfInBounds_toArray, List.set_cons_zero, List.set_cons_succ]
    refine anyH_take 8 58 (v := ?v9) rfl rfl (by kernel_rfl) (by kernel_rfl) (by kernel_rfl) (fun _ _ _ h => h) (by rfl) ?h9 hHeld ?r9
    case h9 => (intro w hSw; (try dsimp only at hSw); go_simp; try (with_reducible rfl))
    simp only [Act.put, List.setIfInBounds_toArray, List.set_cons_zero, List.set_cons_succ]
    refine anyH_take 9 59 (v := ?v10) rfl rfl (by kernel_rfl) (by kernel_rfl) (by kernel_rfl) (fun _ _ _ h => h) (by rfl) ?h10 hHeld ?r10
    case h10 => (intro w hSw; (try dsimp only at hSw); go_simp; try (with_reducible rfl))
    simp only [Act.put, List.setIfInBounds_toArray, List.set_cons_zero, List.set_cons_succ]
    refine anyH_take 10 60 (v := ?v11) rfl rfl (by kernel_rfl) (by kernel_rfl) (by kernel_rfl) (fun _ _ _ h => h) (by rfl) ?h11 hHeld ?r11
    case h11 => (intro w hSw; (try dsimp only at hSw); go_simp; try (with_reducible rfl))
    simp only [Act.put, List.setIfInBounds_toArray, List.set_cons_zero, List.set_cons_succ]
    refine anyH_take 11 61 (v := ?v12) rfl rfl (by kernel_rfl) (by kernel_rfl) (by kernel_rfl) (fun _ _ _ h => h) (by rfl) ?h12 hHeld ?r12
    case h12 => (intro w hSw; (try dsimp only at hSw); go_simp; try (with_reducible rfl))
    simp only [Act.put, List.setIfInBounds_toArray, List.set_cons_zero, List.set_cons_succ]
    refine anyH_take 12 62 (v := ?v13) rfl rfl (by kernel_rfl) (by kernel_rfl) (by kernel_rfl) (fun _ _ _ h => h) (by rfl) ?h13 hHeld ?r13
    case h13 => (intro w hSw; (try dsimp only at hSw); go_simp; try (with_reducible rfl))
    simp only [Act.put, List.setIfInBounds_toArray, List.set_cons_zero, List.set_cons_succ]
    refine anyH_take 13 63 (v := ?v14) rfl rfl (by kernel_rfl) (by kernel_rfl) (by kernel_rfl) (fun _ _ _ h => h) (by rfl) ?h14 hHeld ?r14
    case h14 => (intro w hSw; (try dsimp only at hSw); go_simp; try (with_reducible rfl))
    simp only [Act.put, List.setIfInBounds_toArray, List.set_cons_zero, List.set_cons_succ]
    refine anyH_take 14 64 (v := ?v15) rfl rfl (by kernel_rfl) (by kernel_rfl) (by kernel_rfl) (fun _ _ _ h => h) (by rfl) ?h15 hHeld ?r15
    case h15 => (intro w hSw; (try dsimp only at hSw); go_simp; try (with_reducible rfl))
    simp only [Act.put, List.setIfInBounds_toArray, List.set_cons_zero, List.set_cons_succ]
    refine anyH_take 15 65 (v := ?v16) rfl rfl (by kernel_rfl) (by kernel_rfl) (by kernel_rfl) (fun _ _ _ h => h) (by rfl) ?h16 hHeld ?r16
    case h16 => (intro w hSw; (try dsimp only at hSw); go_simp; try (with_reducible rfl))
    simp only [Act.put, List.setIfInBounds_toArray, List.set_cons_zero, List.set_cons_succ]
    refine anyH_take 16 66 (v := ?v17) rfl rfl (by kernel_rfl) (by kernel_rfl) (by kernel_rfl) (fun _ _ _ h => h) (by rfl) ?h17 hHeld ?r17
    case h17 => (intro w hSw; (try dsimp only at hSw); go_simp; try (with_reducible rfl))
    simp only [Act.put, List.setIfInBounds_toArray, List.set_cons_zero, List.set_cons_succ]
    refine anyH_take 17 67 (v := ?v18) rfl rfl (by kernel_rfl) (by kernel_rfl) (by kernel_rfl) (fun _ _ _ h => h) (by rfl) ?h18 hHeld ?r18
    case h18 => (intro w hSw; (try dsimp only at hSw); go_simp; try (with_reducible rfl))
    simp only [Act.put, List.setIfInBounds_toArray, List.set_cons_zero, List.set_cons_succ]
    refine anyH_take 18 68 (v := ?v19) rfl rfl (by kernel_rfl) (by kernel_rfl) (by kernel_rfl) (fun _ _ _ h => h) (by rfl) ?h19 hHeld ?r19
    case h19 => (intro w hSw; (try dsimp only at hSw); go_simp; try (with_reducible rfl))
    simp only [Act.put, List.setIfInBounds_toArray, List.set_cons_zero, List.set_cons_succ]
    refine anyH_take 20 70 (v := ?v20) rfl rfl (by kernel_rfl) (by kernel_rfl) (by kernel_rfl) (fun _ _ _ h => h) (by rfl) ?h20 hHeld ?r20
    case h20 => (intro w hSw; (try dsimp only at hSw); go_simp; try (with_reducible rfl))
    simp only [Act.put, List.setIfInBounds_toArray, List.set_cons_zero, List.set_cons_succ]
    refine anyH_take 21 71 (v := ?v21) rfl rfl (by kernel_rfl) (by kernel_rfl) (by kernel_rfl) (fun _ _ _ h => h) (by rfl) ?h21 hHeld ?r21
    case h21 => (intro w hSw; (try dsimp only at hSw); go_simp; try (with_reducible rfl))
    simp only [Act.put, List.setIfInBounds_toArray, List.set_cons_zero, List.set_cons_succ]
    refine anyH_take 22 72 (v := ?v22) rfl rfl (by kernel_rfl) (by kernel_rfl) (by kernel_rfl) (fun _ _ _ h => h) (by rfl) ?h22 hHeld ?r22
    case h22 => (intro w hSw; (try dsimp only at hSw); go_simp; try (with_reducible rfl))
    simp only [Act.put, List.setIfInBounds_toArray, List.set_cons_zero, List.set_cons_succ]
    refine anyH_take 23 73 (v := ?v23) rfl rfl (by kernel_rfl) (by kernel_rfl) (by kernel_rfl) (fun _ _ _ h => h) (by rfl) ?h23 hHeld ?r23
    case h23 => (intro w hSw; (try dsimp only at hSw); go_simp; try (with_reducible rfl))
    simp only [Act.put, List.setIfInBounds_toArray, List.set_cons_zero, List.set_cons_succ]
    refine anyH_take 24 74 (v := ?v24) rfl rfl (by kernel_rfl) (by kernel_rfl) (by kernel_rfl) (fun _ _ _ h => h) (by rfl) ?h24 hHeld ?r24
    case h24 => (intro w hSw; (try dsimp only at hSw); go_simp; try (with_reducible rfl))
    simp only [Act.put, List.setIfInBounds_toArray, List.set_cons_zero, List.set_cons_succ]
    refine anyH_take 25 75 (v := ?v25) rfl rfl (by kernel_rfl) (by kernel_rfl) (by kernel_rfl) (fun _ _ _ h => h) (by rfl) ?h25 hHeld ?r25
    case h25 => (intro w hSw; (try dsimp only at hSw); go_simp; try (with_reducible rfl))
    simp only [Act.put, List.setIfInBounds_toArray, List.set_cons_zero, List.set_cons_succ]
    refine anyH_take 26 76 (v := ?v26) rfl rfl (by kernel_rfl) (by kernel_rfl) (by kernel_rfl) (fun _ _ _ h => h) (by rfl) ?h26 hHeld ?r26
    case h26 => (intro w hSw; (try dsimp only at hSw); go_simp; try (with_reducible rfl))
    simp only [Act.put, List.setIfInBounds_toArray, List.set_cons_zero, List.set_cons_succ]
    refine anyH_take 27 77 (v := ?v27) rfl rfl (by kernel_rfl) (by kernel_rfl) (by kernel_rfl) (fun _ _ _ h => h) (by rfl) ?h27 hHeld ?r27
    case h27 => (intro w hSw; (try dsimp only at hSw); go_simp; try (with_reducible rfl))
    simp only [Act.put, List.setIfInBounds_toArray, List.set_cons_zero, List.set_cons_succ]
    refine wpAnyH_ready (rs := [19, 30]) (by kernel_rfl) (by simp) ?_
    refine AllReadyH.cons rfl (fun K hK => ?_) (AllReadyH.cons rfl (fun K hK => ?_) AllReadyH.nil)
    · have hb : Below w2.drew.heap.size w2.drew (w2.drew.alloc (.cells #[] 5)) := (Below.refl _ _).alloc (Nat.le_refl _) _
      have D19 := hide ((unhide D0).trans (hb.mono (unhide D0).size))
      have OE19 := hide (show Owns (w2.drew.alloc (.cells #[] 5)) w2.heap.size (.slice (some ⟨w2.heap.size, 0, none⟩) 0 0) [] from (by have h : Owns (w2.drew.alloc (.cells #[] 5)) w2.heap.size (.slice (some ⟨w2.drew.heap.size, 0, none⟩) 0 0) [] := World.ownsRow_lit _ _ _ (unhide D0).size (by unfold maxLen; simp) rfl; exact h))
      clear hb
      go_simp
      refine hK.out _ _ (unhide SK _ (unhide D19)) (fun hHeld => ?_)
      clear hK K
      refine wpAnyH_ready (rs := [28, 30]) (by kernel_rfl) (by simp) ?_
      refine AllReadyH.cons rfl (fun K hK => ?_) (AllReadyH.cons rfl (fun K hK => ?_) AllReadyH.nil)
      · obtain ⟨g, cp, u19_28, hrun, ho, hgq, hg⟩ := unhide AP _ _ (unhide D19) (unhide OE19)
        have hb : Below w2.heap.size (w2.drew.alloc (.cells #[] 5)) u19_28 := (Below.refl _ _).grown hg (unhide D19).size (fun i hi => by have e : w2.heap.size = i := (by simpa using hi); have := (unhide D0).size; omega)
        have D19_28 := hide ((unhide D19).trans hb)
        have OX19_28 := hide ho
        refine sc_stepApp rfl (.tmp 69) (.tmp 77) 22 rfl _ _ _ u19_28 (by first | rfl | (simp [Act.eval]; done) | (simp [Act.eval, Act.put]; done)) (by first | rfl | (simp [Act.eval]; done) | (simp [Act.eval, Act.put]; done)) hrun ?_
        refine hK.out _ _ (unhide SK _ (unhide D19_28)) (fun hHeld => ?_)
        clear hK K
        clear hb ho hgq hg hrun
        refine anyH_take 29 79 (v := ?v28) rfl rfl (by kernel_rfl) (by kernel_rfl) (by kernel_rfl) (fun _ _ _ h => h) (by rfl) ?h28 hHeld ?r28
        case h28 => (intro w hSw; (try dsimp only at hSw); go_simp; try (with_reducible rfl))
        simp only [Act.put, List.setIfInBounds_toArray]
        refine wpAnyH_ready (rs := [30]) (by kernel_rfl) (by simp) ?_
        refine AllReadyH.cons rfl (fun K hK => ?_) AllReadyH.nil
        have hb : Below u19_28.heap.size u19_28 (u19_28.alloc (.cells #[.int .i64 0, .bool false, .slice none 0 0] 72)) := (Below.refl _ _).alloc (Nat.le_refl _) _
        have D19_28_30 := hide ((unhide D19_28).trans (hb.mono (unhide D19_28).size))
        have KX19_28_30 := hide (show (u19_28.alloc (.cells #[.int .i64 0, .bool false, .slice none 0 0] 72)).heap[u19_28.heap.size]? = some (.cells #[.int .i64 0, .bool false, .slice none 0 0] 72 (0, 0)) from (by have h := heap_alloc_new u19_28 (.cells #[.int .i64 0, .bool false, .slice none 0 0] 72); exact h))
        have OX19_28_30 := hide (owns_below (unhide OX19_28) hb)
        have NX19_28_30 : g ≠ u19_28.heap.size := fun e => by have h1 := (sc_g (unhide OX19_28)).2; omega
        clear hb
        go_simp
        refine hK.out _ _ (unhide SK _ (unhide D19_28_30)) (fun hHeld => ?_)
        clear hK K
        refine wpAnyH_ready (rs := [31]) (by kernel_rfl) (by simp) ?_
        refine AllReadyH.cons rfl (fun K hK => ?_) AllReadyH.nil
        have y0 : (u19_28.alloc (.cells #[.int .i64 0, .bool false, .slice none 0 0] 72)).cell? ⟨u19_28.heap.size, 0, none⟩ = some (.int .i64 0) := (heap_at (unhide KX19_28_30) 0).1
        have y1 : (u19_28.alloc (.cells #[.int .i64 0, .bool false, .slice none 0 0] 72)).cell? ⟨u19_28.heap.size, 1, none⟩ = some (.bool false) := (heap_at (unhide KX19_28_30) 1).1
        have y2 : (u19_28.alloc (.cells #[.int .i64 0, .bool false, .slice none 0 0] 72)).cell? ⟨u19_28.heap.size, 2, none⟩ = some (.slice none 0 0) := (heap_at (unhide KX19_28_30) 2).1
        have f0 : (u19_28.alloc (.cells #[.int .i64 0, .bool false, .slice none 0 0] 72)).frozen? ⟨u19_28.heap.size, 0, none⟩ = false := (heap_at (unhide KX19_28_30) 0).2
        have f1 : (u19_28.alloc (.cells #[.int .i64 0, .bool false, .slice none 0 0] 72)).frozen? ⟨u19_28.heap.size, 1, none⟩ = false := (heap_at (unhide KX19_28_30) 1).2
        have f2 : (u19_28.alloc (.cells #[.int .i64 0, .bool false, .slice none 0 0] 72)).frozen? ⟨u19_28.heap.size, 2, none⟩ = false := (heap_at (unhide KX19_28_30) 2).2
        have BX := hide (ImBox.of_new (X := X) (unhide OX19_28) (unhide D19_28))
        go_simp
        refine hK.out _ _ (unhide SK _ (unhide BX).bel) (fun hHeld => ?_)
        clear hK K
        refine wpAnyH_done (by kernel_rfl) ?_ _
        go_wp2_with fail
        go_meet
        case rel => exact ⟨_, _, _, rfl, unhide BX⟩
      · have hb : Below (w2.drew.alloc (.cells #[] 5)).heap.size (w2.drew.alloc (.cells #[] 5)) ((w2.drew.alloc (.cells #[] 5)).alloc (.cells #[.int .i64 0, .bool false, .slice none 0 0] 72)) := (Below.refl _ _).alloc (Nat.le_refl _) _
        have D19_30 := hide ((unhide D19).trans (hb.mono (unhide D19).size))
        have hz : (w2.drew.alloc (.cells #[] 5)).heap.size = w2.heap.size + 1 := by simp
        have KX19_30 := hide (show ((w2.drew.alloc (.cells #[] 5)).alloc (.cells #[.int .i64 0, .bool false, .slice none 0 0] 72)).heap[w2.heap.size + 1]? = some (.cells #[.int .i64 0, .bool false, .slice none 0 0] 72 (0, 0)) from (by have h := heap_alloc_new (w2.drew.alloc (.cells #[] 5)) (.cells #[.int .i64 0, .bool false, .slice none 0 0] 72); rw [hz] at h; exact h))
        have OE19_30 := hide (owns_below (unhide OE19) hb)
        clear hb hz
        go_simp
        refine hK.out _ _ (unhide SK _ (unhide D19_30)) (fun hHeld => ?_)
        clear hK K
        refine wpAnyH_ready (rs := [28]) (by kernel_rfl) (by simp) ?_
        refine AllReadyH.cons rfl (fun K hK => ?_) AllReadyH.nil
        obtain ⟨g, cp, u19_30_28, hrun, ho, hgq, hg⟩ := unhide AP _ _ (unhide D19_30) (unhide OE19_30)
        have hb : Below w2.heap.size ((w2.drew.alloc (.cells #[] 5)).alloc (.cells #[.int .i64 0, .bool false, .slice none 0 0] 72)) u19_30_28 := (Below.refl _ _).grown hg (unhide D19_30).size (fun i hi => by have e : w2.heap.size = i := (by simpa using hi); have := (unhide D0).size; omega)
        have D19_30_28 := hide ((unhide D19_30).trans hb)
        have OX19_30_28 := hide ho
        have KX19_30_28 := hide ((hg.block (w2.heap.size + 1) (by exact (Array.getElem?_eq_some_iff.1 (unhide KX19_30)).1) (fun e => by injection e with e; omega)).trans (unhide KX19_30))
        have NX19_30_28 : g ≠ w2.heap.size + 1 := fun e => by have hk := (Array.getElem?_eq_some_iff.1 (unhide KX19_30)).1; rcases hgq with h | h <;> (rw [h] at e; simp at e hk; try omega)
        refine sc_stepApp rfl (.tmp 69) (.tmp 77) 22 rfl _ _ _ u19_30_28 (by first | rfl | (simp [Act.eval]; done) | (simp [Act.eval, Act.put]; done)) (by first | rfl | (simp [Act.eval]; done) | (simp [Act.eval, Act.put]; done)) hrun ?_
        refine hK.out _ _ (unhide SK _ (unhide D19_30_28)) (fun hHeld => ?_)
        clear hK K
        clear hb ho hgq hg hrun
        refine anyH_take 29 79 (v := ?v29) rfl rfl (by kernel_rfl) (by kernel_rfl) (by kernel_rfl) (fun _ _ _ h => h) (by rfl) ?h29 hHeld ?r29
        case h29 => (intro w hSw; (try dsimp only at hSw); go_simp; try (with_reducible rfl))
        simp only [Act.put, List.setIfInBounds_toArray]
        refine wpAnyH_ready (rs := [31]) (by kernel_rfl) (by simp) ?_
        refine AllReadyH.cons rfl (fun K hK => ?_) AllReadyH.nil
        have y0 : u19_30_28.cell? ⟨w2.heap.size + 1, 0, none⟩ = some (.int .i64 0) := (heap_at (unhide KX19_30_28) 0).1
        have y1 : u19_30_28.cell? ⟨w2.heap.size + 1, 1, none⟩ = some (.bool false) := (heap_at (unhide KX19_30_28) 1).1
        have y2 : u19_30_28.cell? ⟨w2.heap.size + 1, 2, none⟩ = some (.slice none 0 0) := (heap_at (unhide KX19_30_28) 2).1
        have f0 : u19_30_28.frozen? ⟨w2.heap.size + 1, 0, none⟩ = false := (heap_at (unhide KX19_30_28) 0).2
        have f1 : u19_30_28.frozen? ⟨w2.heap.size + 1, 1, none⟩ = false := (heap_at (unhide KX19_30_28) 1).2
        have f2 : u19_30_28.frozen? ⟨w2.heap.size + 1, 2, none⟩ = false := (heap_at (unhide KX19_30_28) 2).2
        have BX := hide (ImBox.of_store (X := X) (unhide KX19_30_28) (unhide OX19_30_28) NX19_30_28 (by omega) (unhide D19_30_28))
        go_simp
        refine hK.out _ _ (unhide SK _ (unhide BX).bel) (fun hHeld => ?_)
        clear hK K
        refine wpAnyH_done (by kernel_rfl) ?_ _
        go_wp2_with fail
        go_meet
        case rel => exact ⟨_, _, _, rfl, unhide BX⟩
    · have hb : Below w2.drew.heap.size w2.drew (w2.drew.alloc (.cells #[.int .i64 0, .bool false, .slice none 0 0] 72)) := (Below.refl _ _).alloc (Nat.le_refl _) _
      have D30 := hide ((unhide D0).trans (hb.mono (unhide D0).size))
      have KX30 := hide (show (w2.drew.alloc (.cells #[.int .i64 0, .bool false, .slice none 0 0] 72)).heap[w2.heap.size]? = some (.cells #[.int .i64 0, .bool false, .slice none 0 0] 72 (0, 0)) from (by have h := heap_alloc_new w2.drew (.cells #[.int .i64 0, .bool false, .slice none 0 0] 72); exact h))
      clear hb
      go_simp
      refine hK.out _ _ (unhide SK _ (unhide D30)) (fun hHeld => ?_)
      clear hK K
      refine wpAnyH_ready (rs := [19]) (by kernel_rfl) (by simp) ?_
      refine AllReadyH.cons rfl (fun K hK => ?_) AllReadyH.nil
      have hb : Below (w2.drew.alloc (.cells #[.int .i64 0, .bool false, .slice none 0 0] 72)).heap.size (w2.drew.alloc (.cells #[.int .i64 0, .bool false, .slice none 0 0] 72)) ((w2.drew.alloc (.cells #[.int .i64 0, .bool false, .slice none 0 0] 72)).alloc (.cells #[] 5)) := (Below.refl _ _).alloc (Nat.le_refl _) _
      have D30_19 := hide ((unhide D30).trans (hb.mono (unhide D30).size))
      have hz : (w2.drew.alloc (.cells #[.int .i64 0, .bool false, .slice none 0 0] 72)).heap.size = w2.heap.size + 1 := by simp
      have KX30_19 := hide (sc_at_below (unhide KX30) hb)
      have OE30_19 := hide (show Owns ((w2.drew.alloc (.cells #[.int .i64 0, .bool false, .slice none 0 0] 72)).alloc (.cells #[] 5)) w2.heap.size (.slice (some ⟨w2.heap.size + 1, 0, none⟩) 0 0) [] from (by have h : Owns ((w2.drew.alloc (.cells #[.int .i64 0, .bool false, .slice none 0 0] 72)).alloc (.cells #[] 5)) w2.heap.size (.slice (some ⟨(w2.drew.alloc (.cells #[.int .i64 0, .bool false, .slice none 0 0] 72)).heap.size, 0, none⟩) 0 0) [] := World.ownsRow_lit _ _ _ (unhide D30).size (by unfold maxLen; simp) rfl; rw [hz] at h; exact h))
      clear hb hz
      go_simp
      refine hK.out _ _ (unhide SK _ (unhide D30_19)) (fun hHeld => ?_)
      clear hK K
      refine wpAnyH_ready (rs := [28]) (by kernel_rfl) (by simp) ?_
      refine AllReadyH.cons rfl (fun K hK => ?_) AllReadyH.nil
      obtain ⟨g, cp, u30_19_28, hrun, ho, hgq, hg⟩ := unhide AP _ _ (unhide D30_19) (unhide OE30_19)
      have hb : Below w2.heap.size ((w2.drew.alloc (.cells #[.int .i64 0, .bool false, .slice none 0 0] 72)).alloc (.cells #[] 5)) u30_19_28 := (Below.refl _ _).grown hg (unhide D30_19).size (fun i hi => by have e : w2.heap.size + 1 = i := (by simpa using hi); have := (unhide D30).size; omega)
      have D30_19_28 := hide ((unhide D30_19).trans hb)
      have OX30_19_28 := hide ho
      have KX30_19_28 := hide ((hg.block (w2.heap.size) (by exact (Array.getElem?_eq_some_iff.1 (unhide KX30_19)).1) (fun e => by injection e with e; omega)).trans (unhide KX30_19))
      have NX30_19_28 : g ≠ w2.heap.size := fun e => by have hk := (Array.getElem?_eq_some_iff.1 (unhide KX30_19)).1; rcases hgq with h | h <;> (rw [h] at e; simp at e hk; try omega)
      refine sc_stepApp rfl (.tmp 69) (.tmp 77) 22 rfl _ _ _ u30_19_28 (by first | rfl | (simp [Act.eval]; done) | (simp [Act.eval, Act.put]; done)) (by first | rfl | (simp [Act.eval]; done) | (simp [Act.eval, Act.put]; done)) hrun ?_
      refine hK.out _ _ (unhide SK _ (unhide D30_19_28)) (fun hHeld => ?_)
      clear hK K
      clear hb ho hgq hg hrun
      refine anyH_take 29 79 (v := ?v30) rfl rfl (by kernel_rfl) (by kernel_rfl) (by kernel_rfl) (fun _ _ _ h => h) (by rfl) ?h30 hHeld ?r30
      case h30 => (intro w hSw; (try dsimp only at hSw); go_simp; try (with_reducible rfl))
      simp only [Act.put, List.setIfInBounds_toArray]
      refine wpAnyH_ready (rs := [31]) (by kernel_rfl) (by simp) ?_
      refine AllReadyH.cons rfl (fun K hK => ?_) AllReadyH.nil
      have y0 : u30_19_28.cell? ⟨w2.heap.size, 0, none⟩ = some (.int .i64 0) := (heap_at (unhide KX30_19_28) 0).1
      have y1 : u30_19_28.cell? ⟨w2.heap.size, 1, none⟩ = some (.bool false) := (heap_at (unhide KX30_19_28) 1).1
      have y2 : u30_19_28.cell? ⟨w2.heap.size, 2, none⟩ = some (.slice none 0 0) := (heap_at (unhide KX30_19_28) 2).1
      have f0 : u30_19_28.frozen? ⟨w2.heap.size, 0, none⟩ = false := (heap_at (unhide KX30_19_28) 0).2
      have f1 : u30_19_28.frozen? ⟨w2.heap.size, 1, none⟩ = false := (heap_at (unhide KX30_19_28) 1).2
      have f2 : u30_19_28.frozen? ⟨w2.heap.size, 2, none⟩ = false := (heap_at (unhide KX30_19_28) 2).2
      have BX := hide (ImBox.of_store (X := X) (unhide KX30_19_28) (unhide OX30_19_28) NX30_19_28 (Nat.le_refl _) (unhide D30_19_28))
      go_simp
      refine hK.out _ _ (unhide SK _ (unhide BX).bel) (fun hHeld => ?_)
      clear hK K
      refine wpAnyH_done (by kernel_rfl) ?_ _
      go_wp2_with fail
      go_meet
      case rel => exact ⟨_, _, _, rfl, unhide BX⟩
  case rest =>
    obtain ⟨xb, g, cp, rfl, hbx⟩ := hcut
    have B3 := hide (B2.trans ((unhide hbx).bel.mono B2.size))
    have K3 := hide ((((unhide hbx).bel.block w.heap.size z2)).trans (unhide K2))
    have BX := hide (unhide hbx).box
    have OX := hide (unhide hbx).own
    have NEX : xb ≠ w.heap.size := by have := (unhide hbx).ge; omega
    have GGE : w2.heap.size ≤ g := (sc_g (unhide OX)).1
    clear hbx K2 C0 C1 C2 wra wrb wrc wrd wre wrf wrg wrh j1 j1' j1t j2 j2' j2t j5 j5' j6 j6' j7 j8 j9 ja jb hgx XR XD XG
    have SK := hide (show ∀ u, Below wc.heap.size wc u → (fun u => Below wc.heap.size wc u ∧ u.cell? ⟨xb, 0, none⟩ = some (.int .i64 X.id) ∧ u.cell? ⟨xb, 1, none⟩ = some (.bool X.gone) ∧ u.cell? ⟨xb, 2, none⟩ = some (.slice (some ⟨g, 0, none⟩) X.xs.length cp) ∧ (convert 22 9 (.slice (some ⟨b, off + p, none⟩) (X.xs.length + 9) (c - p))).run Tryz.prog u = .ok (.string (strOfNums Ys)) u) u from fun u hu => ⟨hu, (heap_at (sc_at_below (unhide BX) hu) 0).1, (heap_at (sc_at_below (unhide BX) hu) 1).1, (heap_at (sc_at_below (unhide BX) hu) 2).1, sc_conv (unhide XP u ((unhide B3).trans (hu.mono (unhide B3).size)))⟩)
    have D0 := hide (show Below wc.heap.size wc wc.drew from (Below.refl _ _).drew)
    have IMG := hide (fun (u : World) => l03Image_any X.id X.gone (some ⟨g, 0, none⟩) X.xs.length cp u (by unfold maxLen; omega))
    have k9 : (p : Int) ≤ (p : Int) + 9 + (X.xs.length : Int) := by omega
    have k9' : (p : Int) + 9 + (X.xs.length : Int) ≤ (c : Int) := by omega
    have k9a : (0 : Int) ≤ (p : Int) + 9 + (X.xs.length : Int) := by omega
    have k9b : max ((p : Int) + 9 + (X.xs.length : Int)) 0 = (p : Int) + 9 + (X.xs.length : Int) := by omega
    have k9t : ((p : Int) + 9 + (X.xs.length : Int)).toNat = p + 9 + X.xs.length := by omega
    have k9s : p + 9 + X.xs.length - p = X.xs.length + 9 := by omega
    have k9c : ¬ c = p := by omega
    go_upto_region 7 with fail
    cases hok : imOK X.id X.gone X.xs.length with
    | false =>
      have NN := hide (unhide NN3 hok)
      refine wp_region_held_drew (S := (fun u => Below wc.heap.size wc u ∧ u.cell? ⟨xb, 0, none⟩ = some (.int .i64 X.id) ∧ u.cell? ⟨xb, 1, none⟩ = some (.bool X.gone) ∧ u.cell? ⟨xb, 2, none⟩ = some (.slice (some ⟨g, 0, none⟩) X.xs.length cp) ∧ (convert 22 9 (.slice (some ⟨b, off + p, none⟩) (X.xs.length + 9) (c - p))).run Tryz.prog u = .ok (.string (strOfNums Ys)) u)) (by kernel_rfl) (unhide SK _ (unhide D0)) (fun hHeld => ?_)
      refine anyH_take 0 80 (v := ?v31) rfl rfl (by kernel_rfl) (by kernel_rfl) (by kernel_rfl) (fun _ _ _ h => h) (by rfl) ?h31 hHeld ?r31
      case h31 => (intro w hSw; (try dsimp only at hSw); go_simp; try (with_reducible rfl))
      simp only [Act.put, List.setIfInBounds_toArray, List.set_cons_zero, List.set_cons_succ]
      refine wpAnyH_ready (rs := [1]) (by kernel_rfl) (by simp) ?_
      refine AllReadyH.cons rfl (fun K hK => ?_) AllReadyH.nil
      go_simp
      refine (unhide IMG _).mono ?_
      rintro e v1 ⟨rfl, hb⟩
      have D1 := hide ((unhide D0).trans (hb.mono (unhide D0).size))
      clear hb
      rw [hok]
      refine hK.out _ _ (unhide SK _ (unhide D1)) (fun hHeld => ?_)
      clear hK K
      refine anyH_take 2 82 (v := ?v32) rfl rfl (by kernel_rfl) (by kernel_rfl) (by kernel_rfl) (fun _ _ _ h => h) (by rfl) ?h32 hHeld ?r32
      case h32 => (intro w hSw; (try dsimp only at hSw); go_simp; try (with_reducible rfl))
      simp only [Act.put, List.setIfInBounds_toArray, List.set_cons_zero, List.set_cons_succ]
      refine anyH_take 3 83 (v := ?v33) rfl rfl (by kernel_rfl) (by kernel_rfl) (by kernel_rfl) (fun _ _ _ h => h) (by rfl) ?h33 hHeld ?r33
      case h33 => (intro w hSw; (try dsimp only at hSw); go_simp; try (with_reducible rfl))
      simp only [Act.put, List.setIfInBounds_toArray, List.set_cons_zero, List.set_cons_succ]
      refine anyH_skip 4 84 rfl rfl (by kernel_rfl) (by kernel_rfl) (by kernel_rfl) (fun _ _ _ h => h) (by rfl) hHeld ?_
      simp only [Act.put, List.setIfInBounds_toArray, List.set_cons_zero, List.set_cons_succ]
      refine anyH_skip 5 85 rfl rfl (by kernel_rfl) (by kernel_rfl) (by kernel_rfl) (fun _ _ _ h => h) (by rfl) hHeld ?_
      simp only [Act.put, List.setIfInBounds_toArray, List.set_cons_zero, List.set_cons_succ]
      refine anyH_skip 6 86 rfl rfl (by kernel_rfl) (by kernel_rfl) (by kernel_rfl) (fun _ _ _ h => h) (by rfl) hHeld ?_
      simp only [Act.put, List.setIfInBounds_toArray, List.set_cons_zero, List.set_cons_succ]
      refine anyH_skip 7 87 rfl rfl (by kernel_rfl) (by kernel_rfl) (by kernel_rfl) (fun _ _ _ h => h) (by rfl) hHeld ?_
      simp only [Act.put, List.setIfInBounds_toArray, List.set_cons_zero, List.set_cons_succ]
      refine anyH_skip 8 88 rfl rfl (by kernel_rfl) (by kernel_rfl) (by kernel_rfl) (fun _ _ _ h => h) (by rfl) hHeld ?_
      simp only [Act.put, List.setIfInBounds_toArray, List.set_cons_zero, List.set_cons_succ]
      refine anyH_skip 9 89 rfl rfl (by kernel_rfl) (by kernel_rfl) (by kernel_rfl) (fun _ _ _ h => h) (by rfl) hHeld ?_
      simp only [Act.put, List.setIfInBounds_toArray, List.set_cons_zero, List.set_cons_succ]
      refine anyH_skip 10 90 rfl rfl (by kernel_rfl) (by kernel_rfl) (by kernel_rfl) (fun _ _ _ h => h) (by rfl) hHeld ?_
      simp only [Act.put, List.setIfInBounds_toArray, List.set_cons_zero, List.set_cons_succ]
      refine anyH_skip 11 91 rfl rfl (by kernel_rfl) (by kernel_rfl) (by kernel_rfl) (fun _ _ _ h => h) (by rfl) hHeld ?_
      simp only [Act.put, List.setIfInBounds_toArray, List.set_cons_zero, List.set_cons_succ]
      refine anyH_skip 12 92 rfl rfl (by kernel_rfl) (by kernel_rfl) (by kernel_rfl) (fun _ _ _ h => h) (by rfl) hHeld ?_
      simp only [Act.put, List.setIfInBounds_toArray, List.set_cons_zero, List.set_cons_succ]
      refine anyH_skip 13 93 rfl rfl (by kernel_rfl) (by kernel_rfl) (by kernel_rfl) (fun _ _ _ h => h) (by rfl) hHeld ?_
      simp only [Act.put, List.setIfInBounds_toArray, List.set_cons_zero, List.set_cons_succ]
      refine anyH_skip 14 94 rfl rfl (by kernel_rfl) (by kernel_rfl) (by kernel_rfl) (fun _ _ _ h => h) (by rfl) hHeld ?_
      simp only [Act.put, List.setIfInBounds_toArray, List.set_cons_zero, List.set_cons_succ]
      refine anyH_skip 15 95 rfl rfl (by kernel_rfl) (by kernel_rfl) (by kernel_rfl) (fun _ _ _ h => h) (by rfl) hHeld ?_
      simp only [Act.put, List.setIfInBounds_toArray, List.set_cons_zero, List.set_cons_succ]
      refine anyH_take 16 96 (v := ?v34) rfl rfl (by kernel_rfl) (by kernel_rfl) (by kernel_rfl) (fun _ _ _ h => h) (by rfl) ?h34 hHeld ?r34
      case h34 => (intro w hSw; (try dsimp only at hSw); go_simp; try (with_reducible rfl))
      simp only [Act.put, List.setIfInBounds_toArray, List.set_cons_zero, List.set_cons_succ]
      refine wpAnyH_done (by kernel_rfl) ?_ _
      have BF := (unhide B3).trans ((unhide D1).mono (unhide B3).size)
      have KF := hide (sc_at_below (unhide K3) (unhide D1))
      clear NN3 NN4 NY4 XP XB HD OX SK IMG hHeld
      have y0 : v1.cell? ⟨w.heap.size, 0, none⟩ = some (.int .i64 0) := (heap_at (unhide KF) 0).1
      have y1 : v1.cell? ⟨w.heap.size, 1, none⟩ = some (.bool false) := (heap_at (unhide KF) 1).1
      have y2 : v1.cell? ⟨w.heap.size, 2, none⟩ = some (.slice none 0 0) := (heap_at (unhide KF) 2).1
      have f0 : v1.frozen? ⟨w.heap.size, 0, none⟩ = false := (heap_at (unhide KF) 0).2
      have f1 : v1.frozen? ⟨w.heap.size, 1, none⟩ = false := (heap_at (unhide KF) 1).2
      have f2 : v1.frozen? ⟨w.heap.size, 2, none⟩ = false := (heap_at (unhide KF) 2).2
      go_wp2_with fail
      refine bodyPost_ret (v := .tuple #[iv 0 false none 0 0, .bool false]) (by unfold iv; simp [results, Tryz.results133, go_sem, *] <;> rfl) rfl ?_
      exact unhide NO _ (unhide NN) (SB _ BF)
    | true =>
      have CPL : X.xs.length ≤ cp := by
        rcases (unhide OX).2 with ⟨e, _⟩ | ⟨g', cap, cur, e, _, _, h1, _⟩
        · cases e
        · injection e with _ _ e
          subst e
          exact h1
      have RX : Row wc (some ⟨g, 0, none⟩) X.xs.length X.xs := by
        obtain ⟨g', cap', e, hr⟩ := owns_row (unhide OX) (by simp)
        injection e with e1 e2 e3
        injection e1 with e1
        injection e1 with e1
        subst e1
        exact hr
      have IB := hide (fun (u : World) (hu : Below wc.heap.size wc u) => l03Bytes_any X.id X.gone g 0 cp X.xs u CPL hok (row_grow' RX hu) (unhide XB))
      clear CPL RX
      have ESTR := hide (sc_strs (imgL_bytes (id := X.id) (gone := X.gone) (unhide XB) (by omega) (by omega) (by omega)) (unhide HD))
      by_cases hmt : Ys = imgL X.id X.gone X.xs
      · have NS := hide (unhide NY4 hok hmt)
        have hst : ((strOfNums (imgL X.id X.gone X.xs)).toList == (strOfNums Ys).toList) = true := by rw [unhide ESTR]; exact decide_eq_true hmt.symm
        refine wp_region_held_drew (S := (fun u => Below wc.heap.size wc u ∧ u.cell? ⟨xb, 0, none⟩ = some (.int .i64 X.id) ∧ u.cell? ⟨xb, 1, none⟩ = some (.bool X.gone) ∧ u.cell? ⟨xb, 2, none⟩ = some (.slice (some ⟨g, 0, none⟩) X.xs.length cp) ∧ (convert 22 9 (.slice (some ⟨b, off + p, none⟩) (X.xs.length + 9) (c - p))).run Tryz.prog u = .ok (.string (strOfNums Ys)) u)) (by kernel_rfl) (unhide SK _ (unhide D0)) (fun hHeld => ?_)
        refine anyH_take 0 80 (v := ?v35) rfl rfl (by kernel_rfl) (by kernel_rfl) (by kernel_rfl) (fun _ _ _ h => h) (by rfl) ?h35 hHeld ?r35
        case h35 => (intro w hSw; (try dsimp only at hSw); go_simp; try (with_reducible rfl))
        simp only [Act.put, List.setIfInBounds_toArray, List.set_cons_zero, List.set_cons_succ]
        refine wpAnyH_ready (rs := [1]) (by kernel_rfl) (by simp) ?_
        refine AllReadyH.cons rfl (fun K hK => ?_) AllReadyH.nil
        go_simp
        refine (unhide IMG _).mono ?_
        rintro e v1 ⟨rfl, hb⟩
        have D1 := hide ((unhide D0).trans (hb.mono (unhide D0).size))
        clear hb
        rw [hok]
        refine hK.out _ _ (unhide SK _ (unhide D1)) (fun hHeld => ?_)
        clear hK K
        refine anyH_take 2 82 (v := ?v36) rfl rfl (by kernel_rfl) (by kernel_rfl) (by kernel_rfl) (fun _ _ _ h => h) (by rfl) ?h36 hHeld ?r36
        case h36 => (intro w hSw; (try dsimp only at hSw); go_simp; try (with_reducible rfl))
        simp only [Act.put, List.setIfInBounds_toArray, List.set_cons_zero, List.set_cons_succ]
        refine anyH_take 3 83 (v := ?v37) rfl rfl (by kernel_rfl) (by kernel_rfl) (by kernel_rfl) (fun _ _ _ h => h) (by rfl) ?h37 hHeld ?r37
        case h37 => (intro w hSw; (try dsimp only at hSw); go_simp; try (with_reducible rfl))
        simp only [Act.put, List.setIfInBounds_toArray, List.set_cons_zero, List.set_cons_succ]
        refine anyH_take 4 84 (v := ?v38) rfl rfl (by kernel_rfl) (by kernel_rfl) (by kernel_rfl) (fun _ _ _ h => h) (by rfl) ?h38 hHeld ?r38
        case h38 => (intro w hSw; (try dsimp only at hSw); go_simp; try (with_reducible rfl))
        simp only [Act.put, List.setIfInBounds_toArray, List.set_cons_zero, List.set_cons_succ]
        refine anyH_take 7 87 (v := ?v39) rfl rfl (by kernel_rfl) (by kernel_rfl) (by kernel_rfl) (fun _ _ _ h => h) (by rfl) ?h39 hHeld ?r39
        case h39 => (intro w hSw; (try dsimp only at hSw); go_simp; try (with_reducible rfl))
        simp only [Act.put, List.setIfInBounds_toArray, List.set_cons_zero, List.set_cons_succ]
        refine anyH_take 8 88 (v := ?v40) rfl rfl (by kernel_rfl) (by kernel_rfl) (by kernel_rfl) (fun _ _ _ h => h) (by rfl) ?h40 hHeld ?r40
        case h40 => (intro w hSw; (try dsimp only at hSw); go_simp; try (with_reducible rfl))
        simp only [Act.put, List.setIfInBounds_toArray, List.set_cons_zero, List.set_cons_succ]
        refine anyH_take 9 89 (v := ?v41) rfl rfl (by kernel_rfl) (by kernel_rfl) (by kernel_rfl) (fun _ _ _ h => h) (by rfl) ?h41 hHeld ?r41
        case h41 => (intro w hSw; (try dsimp only at hSw); go_simp; try (with_reducible rfl))
        simp only [Act.put, List.setIfInBounds_toArray, List.set_cons_zero, List.set_cons_succ]
        refine anyH_take 10 90 (v := ?v42) rfl rfl (by kernel_rfl) (by kernel_rfl) (by kernel_rfl) (fun _ _ _ h => h) (by rfl) ?h42 hHeld ?r42
        case h42 => (intro w hSw; (try dsimp only at hSw); go_simp; try (with_reducible rfl))
        simp only [Act.put, List.setIfInBounds_toArray, List.set_cons_zero, List.set_cons_succ]
        refine anyH_take 11 91 (v := ?v43) rfl rfl (by kernel_rfl) (by kernel_rfl) (by kernel_rfl) (fun _ _ _ h => h) (by rfl) ?h43 hHeld ?r43
        case h43 => (intro w hSw; (try dsimp only at hSw); go_simp; try (with_reducible rfl))
        simp only [Act.put, List.setIfInBounds_toArray, List.set_cons_zero, List.set_cons_succ]
        refine anyH_take 12 92 (v := ?v44) rfl rfl (by kernel_rfl) (by kernel_rfl) (by kernel_rfl) (fun _ _ _ h => h) (by rfl) ?h44 hHeld ?r44
        case h44 => (intro w hSw; (try dsimp only at hSw); go_simp; try (with_reducible rfl))
        simp only [Act.put, List.setIfInBounds_toArray, List.set_cons_zero, List.set_cons_succ]
        refine anyH_take 13 93 (v := ?v45) rfl rfl (by kernel_rfl) (by kernel_rfl) (by kernel_rfl) (fun _ _ _ h => h) (by rfl) ?h45 hHeld ?r45
        case h45 => (intro w hSw; (try dsimp only at hSw); go_simp; try (with_reducible rfl))
        simp only [Act.put, List.setIfInBounds_toArray, List.set_cons_zero, List.set_cons_succ]
        refine anyH_take 14 94 (v := ?v46) rfl rfl (by kernel_rfl) (by kernel_rfl) (by kernel_rfl) (fun _ _ _ h => h) (by rfl) ?h46 hHeld ?r46
        case h46 => (intro w hSw; (try dsimp only at hSw); go_simp; try (with_reducible rfl))
        simp only [Act.put, List.setIfInBounds_toArray, List.set_cons_zero, List.set_cons_succ]
        refine wpAnyH_ready (rs := [5]) (by kernel_rfl) (by simp) ?_
        refine AllReadyH.cons rfl (fun K hK => ?_) AllReadyH.nil
        go_simp
        refine (unhide IB _ (unhide D1)).mono ?_
        rintro e v1_5 ⟨vv, rfl, ho3, hv3, hb⟩
        have D1_5 := hide ((unhide D1).trans (hb.mono (unhide D1).size))
        obtain ⟨g3, c3, rfl, hr3⟩ := owns_row ho3 hv3
        have CV := sc_conv (c := c3) hr3
        clear hb ho3 hv3 hr3
        refine hK.out _ _ (unhide SK _ (unhide D1_5)) (fun hHeld => ?_)
        clear hK K
        refine wpAnyH_ready (rs := [6]) (by kernel_rfl) (by simp) ?_
        refine AllReadyH.cons rfl (fun K hK => ?_) AllReadyH.nil
        have D1_5_6 := D1_5
        refine sc_stepConv (by rfl) (.tmp 85) 22 9 rfl _ _ (by first | rfl | (simp [Act.eval]; done) | (simp [Act.eval, Act.put]; done)) CV ?_
        refine hK.out _ _ (unhide SK _ (unhide D1_5)) (fun hHeld => ?_)
        clear hK K
        simp only [Act.put, List.setIfInBounds_toArray]
        refine anyH_take 15 95 (v := ?v47) rfl rfl (by kernel_rfl) (by kernel_rfl) (by kernel_rfl) (fun _ _ _ h => h) (by rfl) ?h47 hHeld ?r47
        case h47 => (intro w hSw; (try dsimp only at hSw); go_simp; try (with_reducible rfl))
        simp only [Act.put]
        refine anyH_take 16 96 (v := ?v48) rfl rfl (by kernel_rfl) (by kernel_rfl) (by kernel_rfl) (fun _ _ _ h => h) (by rfl) ?h48 hHeld ?r48
        case h48 => (intro w hSw; (try dsimp only at hSw); go_simp; try (with_reducible rfl))
        simp only [Act.put]
        refine wpAnyH_done (by kernel_rfl) ?_ _
        have BF := (unhide B3).trans ((unhide D1_5_6).mono (unhide B3).size)
        have KF := hide (sc_at_below (unhide K3) (unhide D1_5_6))
        have OF := hide (owns_below (unhide OX) (unhide D1_5_6))
        have BXF := hide (sc_at_below (unhide BX) (unhide D1_5_6))
        clear NN3 NN4 NY4 XP XB HD OX SK IMG IB CV hHeld
        have y0 : v1_5.cell? ⟨w.heap.size, 0, none⟩ = some (.int .i64 0) := (heap_at (unhide KF) 0).1
        have y1 : v1_5.cell? ⟨w.heap.size, 1, none⟩ = some (.bool false) := (heap_at (unhide KF) 1).1
        have y2 : v1_5.cell? ⟨w.heap.size, 2, none⟩ = some (.slice none 0 0) := (heap_at (unhide KF) 2).1
        have f0 : v1_5.frozen? ⟨w.heap.size, 0, none⟩ = false := (heap_at (unhide KF) 0).2
        have f1 : v1_5.frozen? ⟨w.heap.size, 1, none⟩ = false := (heap_at (unhide KF) 1).2
        have f2 : v1_5.frozen? ⟨w.heap.size, 2, none⟩ = false := (heap_at (unhide KF) 2).2
        have x0 : v1_5.cell? ⟨xb, 0, none⟩ = some (.int .i64 X.id) := (heap_at (unhide BXF) 0).1
        have x1 : v1_5.cell? ⟨xb, 1, none⟩ = some (.bool X.gone) := (heap_at (unhide BXF) 1).1
        have x2 : v1_5.cell? ⟨xb, 2, none⟩ = some (.slice (some ⟨g, 0, none⟩) X.xs.length cp) := (heap_at (unhide BXF) 2).1
        have hne : g ≠ w.heap.size := by omega
        have FB := hide (show Below w.heap.size w (((v1_5.setCell ⟨w.heap.size, 0, none⟩ (.int .i64 X.id)).setCell ⟨w.heap.size, 1, none⟩ (.bool X.gone)).setCell ⟨w.heap.size, 2, none⟩ (.slice (some ⟨g, 0, none⟩) X.xs.length cp)) from ((BF.setCell (p := ⟨w.heap.size, 0, none⟩) q3 _).setCell (p := ⟨w.heap.size, 1, none⟩) q3 _).setCell (p := ⟨w.heap.size, 2, none⟩) q3 _)
        have FO := hide (show Owns (((v1_5.setCell ⟨w.heap.size, 0, none⟩ (.int .i64 X.id)).setCell ⟨w.heap.size, 1, none⟩ (.bool X.gone)).setCell ⟨w.heap.size, 2, none⟩ (.slice (some ⟨g, 0, none⟩) X.xs.length cp)) w.heap.size (.slice (some ⟨g, 0, none⟩) X.xs.length cp) X.xs from sc_owns_set (sc_owns_set (sc_owns_set (sc_down (unhide OF) (by omega)) hne _) hne _) hne _)
        clear OF BXF KF
        go_wp2_with fail
        refine bodyPost_ret (v := .tuple #[iv X.id X.gone (some ⟨g, 0, none⟩) X.xs.length cp, .bool true]) (by unfold iv; simp [results, Tryz.results133, go_sem, *] <;> rfl) rfl ?_
        exact .inr ⟨X, g, cp, unhide NS, rfl, unhide FO, unhide FB⟩
      · have NN := hide (unhide NN4 hmt)
        have hst : ((strOfNums (imgL X.id X.gone X.xs)).toList == (strOfNums Ys).toList) = false := by rw [unhide ESTR]; exact decide_eq_false (fun e => hmt e.symm)
        refine wp_region_held_drew (S := (fun u => Below wc.heap.size wc u ∧ u.cell? ⟨xb, 0, none⟩ = some (.int .i64 X.id) ∧ u.cell? ⟨xb, 1, none⟩ = some (.bool X.gone) ∧ u.cell? ⟨xb, 2, none⟩ = some (.slice (some ⟨g, 0, none⟩) X.xs.length cp) ∧ (convert 22 9 (.slice (some ⟨b, off + p, none⟩) (X.xs.length + 9) (c - p))).run Tryz.prog u = .ok (.string (strOfNums Ys)) u)) (by kernel_rfl) (unhide SK _ (unhide D0)) (fun hHeld => ?_)
        refine anyH_take 0 80 (v := ?v49) rfl rfl (by kernel_rfl) (by kernel_rfl) (by kernel_rfl) (fun _ _ _ h => h) (by rfl) ?h49 hHeld ?r49
        case h49 => (intro w hSw; (try dsimp only at hSw); go_simp; try (with_reducible rfl))
        simp only [Act.put, List.setIfInBounds_toArray, List.set_cons_zero, List.set_cons_succ]
        refine wpAnyH_ready (rs := [1]) (by kernel_rfl) (by simp) ?_
        refine AllReadyH.cons rfl (fun K hK => ?_) AllReadyH.nil
        go_simp
        refine (unhide IMG _).mono ?_
        rintro e v1 ⟨rfl, hb⟩
        have D1 := hide ((unhide D0).trans (hb.mono (unhide D0).size))
        clear hb
        rw [hok]
        refine hK.out _ _ (unhide SK _ (unhide D1)) (fun hHeld => ?_)
        clear hK K
        refine anyH_take 2 82 (v := ?v50) rfl rfl (by kernel_rfl) (by kernel_rfl) (by kernel_rfl) (fun _ _ _ h => h) (by rfl) ?h50 hHeld ?r50
        case h50 => (intro w hSw; (try dsimp only at hSw); go_simp; try (with_reducible rfl))
        simp only [Act.put, List.setIfInBounds_toArray, List.set_cons_zero, List.set_cons_succ]
        refine anyH_take 3 83 (v := ?v51) rfl rfl (by kernel_rfl) (by kernel_rfl) (by kernel_rfl) (fun _ _ _ h => h) (by rfl) ?h51 hHeld ?r51
        case h51 => (intro w hSw; (try dsimp only at hSw); go_simp; try (with_reducible rfl))
        simp only [Act.put, List.setIfInBounds_toArray, List.set_cons_zero, List.set_cons_succ]
        refine anyH_take 4 84 (v := ?v52) rfl rfl (by kernel_rfl) (by kernel_rfl) (by kernel_rfl) (fun _ _ _ h => h) (by rfl) ?h52 hHeld ?r52
        case h52 => (intro w hSw; (try dsimp only at hSw); go_simp; try (with_reducible rfl))
        simp only [Act.put, List.setIfInBounds_toArray, List.set_cons_zero, List.set_cons_succ]
        refine anyH_take 7 87 (v := ?v53) rfl rfl (by kernel_rfl) (by kernel_rfl) (by kernel_rfl) (fun _ _ _ h => h) (by rfl) ?h53 hHeld ?r53
        case h53 => (intro w hSw; (try dsimp only at hSw); go_simp; try (with_reducible rfl))
        simp only [Act.put, List.setIfInBounds_toArray, List.set_cons_zero, List.set_cons_succ]
        refine anyH_take 8 88 (v := ?v54) rfl rfl (by kernel_rfl) (by kernel_rfl) (by kernel_rfl) (fun _ _ _ h => h) (by rfl) ?h54 hHeld ?r54
        case h54 => (intro w hSw; (try dsimp only at hSw); go_simp; try (with_reducible rfl))
        simp only [Act.put, List.setIfInBounds_toArray, List.set_cons_zero, List.set_cons_succ]
        refine anyH_take 9 89 (v := ?v55) rfl rfl (by kernel_rfl) (by kernel_rfl) (by kernel_rfl) (fun _ _ _ h => h) (by rfl) ?h55 hHeld ?r55
        case h55 => (intro w hSw; (try dsimp only at hSw); go_simp; try (with_reducible rfl))
        simp only [Act.put, List.setIfInBounds_toArray, List.set_cons_zero, List.set_cons_succ]
        refine anyH_take 10 90 (v := ?v56) rfl rfl (by kernel_rfl) (by kernel_rfl) (by kernel_rfl) (fun _ _ _ h => h) (by rfl) ?h56 hHeld ?r56
        case h56 => (intro w hSw; (try dsimp only at hSw); go_simp; try (with_reducible rfl))
        simp only [Act.put, List.setIfInBounds_toArray, List.set_cons_zero, List.set_cons_succ]
        refine anyH_take 11 91 (v := ?v57) rfl rfl (by kernel_rfl) (by kernel_rfl) (by kernel_rfl) (fun _ _ _ h => h) (by rfl) ?h57 hHeld ?r57
        case h57 => (intro w hSw; (try dsimp only at hSw); go_simp; try (with_reducible rfl))
        simp only [Act.put, List.setIfInBounds_toArray, List.set_cons_zero, List.set_cons_succ]
        refine anyH_take 12 92 (v := ?v58) rfl rfl (by kernel_rfl) (by kernel_rfl) (by kernel_rfl) (fun _ _ _ h => h) (by rfl) ?h58 hHeld ?r58
        case h58 => (intro w hSw; (try dsimp only at hSw); go_simp; try (with_reducible rfl))
        simp only [Act.put, List.setIfInBounds_toArray, List.set_cons_zero, List.set_cons_succ]
        refine anyH_take 13 93 (v := ?v59) rfl rfl (by kernel_rfl) (by kernel_rfl) (by kernel_rfl) (fun _ _ _ h => h) (by rfl) ?h59 hHeld ?r59
        case h59 => (intro w hSw; (try dsimp only at hSw); go_simp; try (with_reducible rfl))
        simp only [Act.put, List.setIfInBounds_toArray, List.set_cons_zero, List.set_cons_succ]
        refine anyH_take 14 94 (v := ?v60) rfl rfl (by kernel_rfl) (by kernel_rfl) (by kernel_rfl) (fun _ _ _ h => h) (by rfl) ?h60 hHeld ?r60
        case h60 => (intro w hSw; (try dsimp only at hSw); go_simp; try (with_reducible rfl))
        simp only [Act.put, List.setIfInBounds_toArray, List.set_cons_zero, List.set_cons_succ]
        refine wpAnyH_ready (rs := [5]) (by kernel_rfl) (by simp) ?_
        refine AllReadyH.cons rfl (fun K hK => ?_) AllReadyH.nil
        go_simp
        refine (unhide IB _ (unhide D1)).mono ?_
        rintro e v1_5 ⟨vv, rfl, ho3, hv3, hb⟩
        have D1_5 := hide ((unhide D1).trans (hb.mono (unhide D1).size))
        obtain ⟨g3, c3, rfl, hr3⟩ := owns_row ho3 hv3
        have CV := sc_conv (c := c3) hr3
        clear hb ho3 hv3 hr3
        refine hK.out _ _ (unhide SK _ (unhide D1_5)) (fun hHeld => ?_)
        clear hK K
        refine wpAnyH_ready (rs := [6]) (by kernel_rfl) (by simp) ?_
        refine AllReadyH.cons rfl (fun K hK => ?_) AllReadyH.nil
        have D1_5_6 := D1_5
        refine sc_stepConv (by rfl) (.tmp 85) 22 9 rfl _ _ (by first | rfl | (simp [Act.eval]; done) | (simp [Act.eval, Act.put]; done)) CV ?_
        refine hK.out _ _ (unhide SK _ (unhide D1_5)) (fun hHeld => ?_)
        clear hK K
        simp only [Act.put, List.setIfInBounds_toArray]
        refine anyH_take 15 95 (v := ?v61) rfl rfl (by kernel_rfl) (by kernel_rfl) (by kernel_rfl) (fun _ _ _ h => h) (by rfl) ?h61 hHeld ?r61
        case h61 => (intro w hSw; (try dsimp only at hSw); go_simp; try (with_reducible rfl))
        simp only [Act.put]
        refine anyH_take 16 96 (v := ?v62) rfl rfl (by kernel_rfl) (by kernel_rfl) (by kernel_rfl) (fun _ _ _ h => h) (by rfl) ?h62 hHeld ?r62
        case h62 => (intro w hSw; (try dsimp only at hSw); go_simp; try (with_reducible rfl))
        simp only [Act.put]
        refine wpAnyH_done (by kernel_rfl) ?_ _
        have BF := (unhide B3).trans ((unhide D1_5_6).mono (unhide B3).size)
        have KF := hide (sc_at_below (unhide K3) (unhide D1_5_6))
        clear NN3 NN4 NY4 XP XB HD OX SK IMG hHeld
        have y0 : v1_5.cell? ⟨w.heap.size, 0, none⟩ = some (.int .i64 0) := (heap_at (unhide KF) 0).1
        have y1 : v1_5.cell? ⟨w.heap.size, 1, none⟩ = some (.bool false) := (heap_at (unhide KF) 1).1
        have y2 : v1_5.cell? ⟨w.heap.size, 2, none⟩ = some (.slice none 0 0) := (heap_at (unhide KF) 2).1
        have f0 : v1_5.frozen? ⟨w.heap.size, 0, none⟩ = false := (heap_at (unhide KF) 0).2
        have f1 : v1_5.frozen? ⟨w.heap.size, 1, none⟩ = false := (heap_at (unhide KF) 1).2
        have f2 : v1_5.frozen? ⟨w.heap.size, 2, none⟩ = false := (heap_at (unhide KF) 2).2
        go_wp2_with fail
        refine bodyPost_ret (v := .tuple #[iv 0 false none 0 0, .bool false]) (by unfold iv; simp [results, Tryz.results133, go_sem, *] <;> rfl) rfl ?_
        exact unhide NO _ (unhide NN) (SB _ BF)
end Go.Proofs.YtcflepnckjappaaGreat

namespace Go.Proofs.YtcflepnckjappaaGreat
open Go.RowKit

theorem hdat_of_owns {w : World} {B : Nat} {h : ImH} (ho : Owns w B (.slice (some ⟨h.g, 0, none⟩) h.X.xs.length h.c) h.X.xs) : hDat w B h := by
  obtain ⟨a, c, e, hb⟩ := br_of_owns ho
  injection e with e1 e2 e3
  subst e1
  exact hb
end Go.Proofs.YtcflepnckjappaaGreat

namespace Go.Proofs.YtcflepnckjappaaGreat
open Go.RowKit

def CapI (hs : List ImH) : Prop := ∀ h ∈ hs, h.X.xs.length ≤ h.c
/-- What a scan gives: the images and the place behind them. -/
def ScResC (xs : List Int) (w : World) (e : Ending) (w' : World) : Prop :=
  ∃ v hs, e = .returned (.tuple #[v, .int .i64 ((scanB xs).2 : Int)]) ∧ IOwn w' w.heap.size v hs ∧ hs.map (·.X) = (scanB xs).1 ∧ Below w.heap.size w w' ∧ CapI hs
set_option maxRecDepth 100000 in
set_option maxHeartbeats 8000000 in
theorem l03ScanC_any (a : Option Addr) (n c : Nat) (xs : List Int) (w : World) (hR : Row w a n xs) (h8 : Bytes8 xs) (hn : n ≤ 65536) (hc : n ≤ c) (hc2 : c ≤ maxLen) :
    Calls Tryz.prog 54 #[.slice a n c] w fun e w' => ScResC xs w e w' := by
  have LN := hide hR.1
  have NX := hide (fun (p : Nat) (u : World) (hp : p ≤ n) (hu : Below w.heap.size w u) => l03Next_any a n c p xs u (row_grow' hR hu) h8 hp hn hc hc2)
  have H0 := hide (show IOwn (w.alloc (.cells #[] 72)) w.heap.size (.slice (some ⟨w.heap.size, 0, none⟩) 0 0) [] from IOwn.lit (Nat.le_refl _))
  have B0 := hide (show Below w.heap.size w (w.alloc (.cells #[] 72)) from (Below.refl _ _).alloc (Nat.le_refl _) _)
  clear hR h8
  go_enter Tryz.func54, Tryz.ntmps54
  go_wp2_with fail
  go_loopw [4, 5] (fun o' i wr => ∃ (p : Nat) (o : Value) (hs : List ImH), o' = o ∧ i = .int .i64 (p : Int) ∧ p ≤ n ∧ Hid (Steps xs (hs.map (·.X)) p) ∧ Hid (IOwn wr w.heap.size o hs) ∧ Hid (Below w.heap.size w wr) ∧ Hid (CapI hs)) (fun _ i _ => n - (intOf i).toNat)
  case atStart => exact ⟨0, _, [], rfl, rfl, Nat.zero_le _, Steps.start, unhide H0, unhide B0, fun _ h => absurd h List.not_mem_nil⟩
  case round =>
    clear H0 B0
    obtain ⟨p, o, hs, rfl, rfl, hp, hS, hI, hB, hCp⟩ := hrel
    go_wp2_with fail
    refine (unhide NX p wr hp (unhide hB)).mono ?_
    intro e w2 hv
    rcases hv with ⟨hnx, rfl, hb1⟩ | ⟨X, g, cp, hnx, rfl, ho, hb1⟩
    · have Z := hide (scan_end (unhide hS) hnx)
      have hb3 := hb1.trans (((Below.refl _ _).alloc (Nat.le_refl _) (.cells #[.int .i64 0, .bool false, .slice none 0 0] 72)).mono hb1.size)
      have HN := hide ((unhide hI).below hb3)
      have BN := hide ((unhide hB).trans (hb3.mono (unhide hB).size))
      clear hb1 hb3 hnx hI hB NX hS
      unfold iv
      go_wp2_with fail
      go_ret2
      exact ⟨u4, hs, (by rw [unhide Z]; rfl), unhide HN, (by rw [unhide Z]), unhide BN, unhide hCp⟩
    · have CP := hide (show CapI (hs ++ [(⟨X, g, cp⟩ : ImH)]) from fun h hm => by
        rcases List.mem_append.1 hm with hm | hm
        · exact unhide hCp h hm
        · rw [List.mem_singleton.1 hm]
          exact (cap_of_owns (s := ⟨some ⟨g, 0, none⟩, X.xs.length, cp⟩) ho).1)
      have hsm := next_some hnx
      have hpl : p + 9 + X.xs.length ≤ n := by have := hsm.2.2.2; rw [unhide LN] at this; exact this
      have hsl := (unhide hS).le
      rw [List.length_map] at hsl
      have ST := hide (show Steps xs ((hs ++ [(⟨X, g, cp⟩ : ImH)]).map (fun x : ImH => x.X)) (p + 9 + X.xs.length) by rw [List.map_append]; exact Steps.more (unhide hS) hnx)
      have fresh : ∀ i (hi : i < hs.length), hs[i].g ≠ g := fun i hi e => by
        have h1 := (hDat.lt ((unhide hI).dat i hi)).2
        have h2 := (ho.lt g rfl).1
        omega
      have fresh2 : u4.ownBlock ≠ some g := fun e => by
        have h1 := ((unhide hI).row.lt g e).2
        have h2 := (ho.lt g rfl).1
        omega
      have OB : ∀ k, u4.ownBlock = some k → k < w2.heap.size := fun k hk => Nat.lt_of_lt_of_le ((unhide hI).row.lt k hk).2 hb1.size
      have bA : Below w2.heap.size w2 (w2.alloc (.cells #[.int .i64 X.id, .bool X.gone, .slice (some ⟨g, 0, none⟩) X.xs.length cp] 72)) := (Below.refl _ _).alloc (Nat.le_refl _) _
      have hb3 := hb1.trans (bA.mono hb1.size)
      have HN := (unhide hI).below hb3
      have BN := (unhide hB).trans (hb3.mono (unhide hB).size)
      have DN : hDat (w2.alloc (.cells #[.int .i64 X.id, .bool X.gone, .slice (some ⟨g, 0, none⟩) X.xs.length cp] 72)) w.heap.size ⟨X, g, cp⟩ := by
        have h1 := (hdat_of_owns (h := ⟨X, g, cp⟩) ho).below bA
        exact ⟨h1.row, fun x hx => ⟨Nat.le_trans (unhide hB).size (h1.own x hx).1, (h1.own x hx).2⟩⟩
      have KX := heap_alloc_new w2 (.cells #[.int .i64 X.id, .bool X.gone, .slice (some ⟨g, 0, none⟩) X.xs.length cp] 72)
      have x0 : (w2.alloc (.cells #[.int .i64 X.id, .bool X.gone, .slice (some ⟨g, 0, none⟩) X.xs.length cp] 72)).cell? ⟨w2.heap.size, 0, none⟩ = some (.int .i64 X.id) := (heap_at KX 0).1
      have x1 : (w2.alloc (.cells #[.int .i64 X.id, .bool X.gone, .slice (some ⟨g, 0, none⟩) X.xs.length cp] 72)).cell? ⟨w2.heap.size, 1, none⟩ = some (.bool X.gone) := (heap_at KX 1).1
      have x2 : (w2.alloc (.cells #[.int .i64 X.id, .bool X.gone, .slice (some ⟨g, 0, none⟩) X.xs.length cp] 72)).cell? ⟨w2.heap.size, 2, none⟩ = some (.slice (some ⟨g, 0, none⟩) X.xs.length cp) := (heap_at KX 2).1
      have KXH := hide KX
      clear KX hb1 hb3 bA ho hI hB NX hS hsm hnx
      unfold iv
      go_upto_region 6 with fail
      generalize w2.alloc (.cells #[.int .i64 X.id, .bool X.gone, .slice (some ⟨g, 0, none⟩) X.xs.length cp] 72) = W3 at *
      generalize w2.heap.size = bx at *
      obtain ⟨v', w', hr', ho', hg', hv'⟩ := im_app (h := ⟨X, g, cp⟩) HN DN fresh fresh2 (by omega) BN.size
      have BF := hide (((BN.alloc BN.size _)).grown hg' (by have := BN.size; simp; omega) (fun k hk => (HN.row.lt k hk).1))
      have HF := hide ho'
      have hbx : bx < W3.heap.size := (Array.getElem?_eq_some_iff.1 (unhide KXH)).1
      have kx : w'.heap[bx]? = W3.heap[bx]? := (hg'.block bx (by simp; omega) (fun e => by have := OB bx e.symm; omega)).trans (Below.heap_alloc _ _ _ hbx)
      have x2' : w'.cell? ⟨bx, 2, none⟩ = some (.slice (some ⟨g, 0, none⟩) X.xs.length cp) := (heap_at (kx.trans (unhide KXH)) 2).1
      have wr1 : IntKind.i64.wrap (9 + (X.xs.length : Int)) = 9 + (X.xs.length : Int) := by rw [IntKind.wrap_i64]; omega
      have wr2 : IntKind.i64.wrap ((p : Int) + (9 + (X.xs.length : Int))) = ((p + 9 + X.xs.length : Nat) : Int) := by rw [IntKind.wrap_i64]; omega
      clear HN BN DN ho' hg' kx KXH OB fresh fresh2
      simp only at hr'
      go_wp2_with (at_builtin; refine sc_wpApp rfl (.tmp 19) (.tmp 21) 74 rfl _ _ _ w' rfl rfl hr' ?_)
      go_roundw
      case rel => exact ⟨p + 9 + X.xs.length, _, hs ++ [(⟨X, g, cp⟩ : ImH)], rfl, by first | rfl | go_num, by omega, ST, HF, BF, CP⟩
      case measure => simp [intOf]; omega
end Go.Proofs.YtcflepnckjappaaGreat

namespace Go.Proofs.YtcflepnckjappaaGreat
open Go.RowKit Go.Maps

/-- A sector in a map reads as itself. -/
def selfElem (v : Value) : Option (DataW Value × List MemPlace) := some (.held v, [])
/-- A sector as a value. -/
def secV (s : List Int) : Value := .agg (s.map (Value.int .u8)).toArray
/-- Block m is a map of at most N entries that has the sectors f. -/
def SecMap (w : World) (m N : Nat) (f : Nat → List Int) : Prop :=
  ∃ D : DataW Value, w.ownsMap Tryz.prog 3 selfElem m N D ∧ ∀ i : Nat, i < 128 → D.atKey (.int .i64 i) (.held (secV nou)) = .held (secV (f i))
theorem SecMap.lt {w : World} {m N : Nat} {f : Nat → List Int} (h : SecMap w m N f) : m < w.heap.size := by obtain ⟨D, h, _⟩ := h; exact h.lt
theorem SecMap.mono {w : World} {m N N' : Nat} {f : Nat → List Int} (h : SecMap w m N f) (hn : N ≤ N') : SecMap w m N' f := by obtain ⟨D, h, h2⟩ := h; exact ⟨D, h.mono hn, h2⟩
theorem SecMap.block {w w' : World} {m N : Nat} {f : Nat → List Int} (h : SecMap w m N f) (hb : w'.heap[m]? = w.heap[m]?) : SecMap w' m N f := by
  obtain ⟨D, ⟨es, clock, h1, h2⟩, h3⟩ := h
  exact ⟨D, ⟨es, clock, hb.trans h1, h2⟩, h3⟩
theorem SecMap.below {w w' : World} {m N B : Nat} {f : Nat → List Int} (h : SecMap w m N f) (hb : Below B w w') (hm : m < B) : SecMap w' m N f := h.block (hb.block m hm)
theorem secMap_made (w : World) : SecMap (w.alloc (.map #[] 0)) w.heap.size 0 (fun _ => nou) :=
  ⟨.map [], World.ownsMap_made w _ _ _, fun _ _ => rfl⟩
theorem sec_zero (w : World) : (zeroValue 226).run Tryz.prog w = .ok (secV nou) w := by kernel_rfl
theorem key_wf {i : Nat} (h : i < 128) : (Lit.int .i64 (i : Int)).wf = true := by
  simp [Lit.wf, IntKind.min, IntKind.max, IntKind.signed, IntKind.bits]; omega
theorem SecMap.lookup {w : World} {m N : Nat} {f : Nat → List Int} (h : SecMap w m N f) {i : Nat} (hi : i < 128) : (Instr.lookup 123 (.map (some m)) (.int .i64 (i : Int)) false).run Tryz.prog w = .ok (secV (f i)) w := by
  obtain ⟨D, h1, h2⟩ := h
  obtain ⟨v, ps, hrun, hv⟩ := h1.lookup (int_keyed Tryz.underlying3) Tryz.underlying123 (sec_zero w) (zd := .held (secV nou)) (zp := []) rfl (keyOf_int_mk Tryz.underlying3 (key_wf hi))
  rw [h2 i hi] at hv
  simp [selfElem] at hv
  rw [hrun, hv.1]
theorem SecMap.update {w : World} {m N : Nat} {f : Nat → List Int} (h : SecMap w m N f) {i : Nat} (hi : i < 128) (hN : N < maxLen) (s : List Int) :
    ∃ w', (Instr.mapUpdate 123 (.map (some m)) (.int .i64 (i : Int)) (secV s)).run Tryz.prog w = .ok () w' ∧ SecMap w' m (N + 1) (updS f i s) ∧ w.grownBy w' (some m) := by
  obtain ⟨D, h1, h2⟩ := h
  obtain ⟨w', hrun, ho, hg⟩ := h1.update (int_keyed Tryz.underlying3) Tryz.underlying123 hN (keyOf_int_mk Tryz.underlying3 (key_wf hi)) (val := secV s) (d := .held (secV s)) (ps := []) rfl
  refine ⟨w', hrun, ⟨_, ho, fun j hj => ?_⟩, hg⟩
  unfold updS
  by_cases e : j = i
  · subst e
    rw [if_pos rfl, atKey_put_same h1.isMap (show WideAt.IsKeyLit (.int .i64 (j : Int)) from trivial)]
  · rw [if_neg e, atKey_put_other (by intro h; injection h; omega), h2 j hj]
theorem wpList_lookup_sec (w : World) {ops : Array Oper} {rest : List Oper} {o : Oper} {a : Act} {Q : Exit → Act → World → Prop}
    (hg : o.guard = none) (m x : Operand) (hop : o.op = Op.lookup 123 m x false) (b N : Nat) (f : Nat → List Int) (i : Nat) (hm : a.eval m = .map (some b)) (hx : a.eval x = .int .i64 (i : Int)) (h : SecMap w b N f) (hi : i < 128)
    (hK : wpList Tryz.prog ops Q rest (a.put o.dst (secV (f i))) w) : wpList Tryz.prog ops Q (o :: rest) a w := by
  refine wpList_plain hg fun K' hK' => ?_
  have hrun := h.lookup hi
  unfold Oper.wp
  simp [execOp, hop, hm, hx, hrun, Result.andThen]
  exact hK' _ _ hK
theorem run_eql_map_nil (w : World) (t k e : TypeId) (p : Option Nat) (h : Tryz.prog.underlying t = some (.map k e)) :
    (binOp .eql t (.map p) (.map none)).run Tryz.prog w = .ok (.bool p.isNone) w := by
  have e0 : ∀ d, (Op.equalIn (d + 1) t (.map p) (.map none)).run Tryz.prog w = .ok p.isNone w := fun d => by cases p <;> simp [Op.equalIn, run_underlying h]
  simp only [binOp]
  simp [show Op.equal t (.map p) (.map none) = Op.equalIn (9999 + 1) t (.map p) (.map none) from rfl, e0 9999]
theorem run_clone {w : World} {r : Nat} {es : Array MapEntry} {clock : Nat} (t : TypeId) (hb : w.heap[r]? = some (.map es clock)) :
    (Extern.MapsClone.clone #[.iface t (.map (some r))]).run Tryz.prog w = .ok (.iface t (.map (some w.heap.size))) (w.alloc (.map es clock)) := by
  have e : Extern.MapsClone.clone #[.iface t (.map (some r))] = (getObj r >>= fun o => match o with
      | .map entries clock => (newObj (.map entries clock) >>= fun n => pure (.iface t (.map (some n))))
      | _ => stuck "maps.clone: a map expected") := rfl
  rw [e]
  simp [MapKept.run_getObj_map hb, Result.andThen, go_sem]
theorem run_assert_map (w : World) (t xT k e : TypeId) (v : Value) (h : Tryz.prog.underlying t = some (.map k e)) : (Instr.typeAssert (.iface t v) xT t false).run Tryz.prog w = .ok v w := by
  simp [Instr.typeAssert, run_underlying h, go_sem, Result.andThen]
set_option maxRecDepth 100000 in
set_option maxHeartbeats 2000000 in
theorem mapsClone_any (m N : Nat) (f : Nat → List Int) (w : World) (h : SecMap w m N f) :
    Calls Tryz.prog 222 #[.map (some m)] w fun e w' => e = .returned (.map (some w.heap.size)) ∧ SecMap w' w.heap.size N f ∧ Below w.heap.size w w' := by
  obtain ⟨D, ⟨es, clock, hb, hF, hs, hD⟩, hf⟩ := h
  have hq := run_eql_map_nil w 123 _ _ (some m) Tryz.underlying123
  have F := hide (show SecMap (w.alloc (.map es clock)) w.heap.size N f from ⟨D, ⟨es, clock, (MapKept.heap_alloc w _).1, hF, hs, hD⟩, hf⟩)
  clear hF hs hD hf
  go_enter Tryz.func222, Tryz.ntmps222
  go_wp2_with fail
  rw [run_callFunc_extern Tryz.func286 (by kernel_rfl) (by kernel_rfl) (by kernel_rfl) (e := Extern.MapsClone.clone) (by kernel_rfl), run_clone 123 hb]
  simp only [Result.andThen]
  rw [Oper.upon_value]
  go_wp2_with fail
  rw [run_assert_map _ 123 20 _ _ _ Tryz.underlying123]
  simp only [Result.andThen]
  rw [Oper.upon_value]
  go_wp2_with fail
  go_ret
  exact ⟨rfl, unhide F, (Below.refl _ _).alloc (Nat.le_refl _) _⟩
end Go.Proofs.YtcflepnckjappaaGreat

namespace Go.Proofs.YtcflepnckjappaaGreat
open Go.RowKit Go.Maps

theorem sectorOf_any (b off len cap n : Nat) (w : World) (h1 : (n + 1) * 16 ≤ len) (h2 : len ≤ cap) (h3 : cap ≤ maxLen) :
    Calls Tryz.prog 141 #[.slice (some ⟨b, off, none⟩) len cap, .int .i64 (n : Int)] w fun e w' => e = .returned (.slice (some ⟨b, off + n * 16, none⟩) 16 16) ∧ w' = w := by
  unfold maxLen at h3
  go_enter Tryz.func141, Tryz.ntmps141
  go_wp2_with fail
  rw [show (n + 1) * 16 - n * 16 = 16 by omega]
  go_ret
  exact ⟨rfl, rfl⟩
/-- Nothing is written but block m and, in block p, the cell at off. -/
structure Put2 (p off m : Nat) (w w' : World) : Prop where
  os : w'.os = w.os
  tape : w'.tape = w.tape
  output : w'.output = w.output
  size : w.heap.size ≤ w'.heap.size
  block : ∀ k, k ≠ p → k ≠ m → k < w.heap.size → w'.heap[k]? = w.heap[k]?
  cell : ∀ j, j ≠ off → w'.cell? ⟨p, j, none⟩ = w.cell? ⟨p, j, none⟩
  frozen : ∀ j, w'.frozen? ⟨p, j, none⟩ = w.frozen? ⟨p, j, none⟩
  kind : ∀ cur t fr, w.heap[p]? = some (.cells cur t fr) → ∃ cur', w'.heap[p]? = some (.cells cur' t fr)
theorem setCell_kind {w : World} {b o : Nat} {v : Value} {cur : Array Value} {t : TypeId} {fr : Nat × Nat} (h : w.heap[b]? = some (.cells cur t fr)) : ∃ cur', (w.setCell ⟨b, o, none⟩ v).heap[b]? = some (.cells cur' t fr) := by
  rw [setCell_eq_setRow w b o cur t fr v h]
  exact ⟨_, setRow_heap w b cur _ t fr h⟩
theorem sec_info : (Tryz.prog.info? 226).map (·.size) = some 16 := by kernel_rfl
theorem load_box {w : World} {g : Nat} {cs : Array Value} (hc : ∀ j, w.cell? ⟨g, j, none⟩ = cs[j]?) (h16 : cs.size = 16) : (Instr.loadAt 226 (.pointer (some ⟨g, 0, none⟩))).run Tryz.prog w = .ok (.agg cs) w := by
  have := run_loadAt_mid (P := Tryz.prog) w g 0 226 cs.toList _ (fun j v hv => by rw [Nat.zero_add, hc j]; simpa using hv) Tryz.underlying226 rfl (by rw [sec_info]; simp [h16])
  simpa using this
theorem eta16 {cs : Array Value} (h : cs.size = 16) : #[cs[0], cs[1], cs[2], cs[3], cs[4], cs[5], cs[6], cs[7], cs[8], cs[9], cs[10], cs[11], cs[12], cs[13], cs[14], cs[15]] = cs := by
  apply Array.ext
  · simp [h]
  · intro i h1 h2
    simp at h1
    match i, h1 with
    | 0, _ | 1, _ | 2, _ | 3, _ | 4, _ | 5, _ | 6, _ | 7, _ | 8, _ | 9, _ | 10, _ | 11, _ | 12, _ | 13, _ | 14, _ | 15, _ => rfl
    | k + 16, h => exact absurd h (by omega)
set_option maxHeartbeats 1000000 in
theorem put_any (p o m N n c : Nat) (f : Nat → List Int) (s : List Int) (w : World) (h16 : s.length = 16) (hm : SecMap w m N f) (hN : N < maxLen) (hn : n < 128)
    (c0 : w.cell? ⟨p, o, none⟩ = some (.int .i64 (c : Int))) (c1 : w.cell? ⟨p, o + 1, none⟩ = some (.map (some m))) (f0 : w.frozen? ⟨p, o, none⟩ = false) (hpm : p ≠ m) :
    Calls Tryz.prog 140 #[.pointer (some ⟨p, o, none⟩), .int .i64 (n : Int), secV s] w fun e w' => e = .returned (.tuple #[]) ∧ SecMap w' m (N + 1) (updS f n s) ∧ w'.cell? ⟨p, o, none⟩ = some (.int .i64 ((max c (n + 1) : Nat) : Int)) ∧ Put2 p o m w w' := by
  obtain ⟨cs, hcs⟩ : ∃ cs, cs = (s.map (Value.int .u8)).toArray := ⟨_, rfl⟩
  have hsv : secV s = .agg cs := by rw [hcs]; rfl
  have hz : cs.size = 16 := by rw [hcs]; simp [h16]
  rw [hsv]
  have hl : p < w.heap.size := cell_lt c0
  have hml : m < w.heap.size := hm.lt
  obtain ⟨wx, hwx⟩ : ∃ wx, wx = (w.alloc (.cells cs 226)).drew := ⟨_, rfl⟩
  have hload : (Instr.loadAt 226 (.pointer (some ⟨w.heap.size, 0, none⟩))).run Tryz.prog wx = .ok (.agg cs) wx := load_box (fun j => by rw [hwx]; exact cell_new rfl) hz
  have hbx : Below w.heap.size w wx := by rw [hwx]; exact bel_drewN (n := 1) ((Below.refl _ _).alloc (Nat.le_refl _) _)
  have d0 := (hbx.cell (p := ⟨p, o, none⟩) hl).trans c0
  have d1 := (hbx.cell (p := ⟨p, o + 1, none⟩) hl).trans c1
  have g0 := (hbx.frozen (p := ⟨p, o, none⟩) hl).trans f0
  obtain ⟨w1, hrun, hm1, hg1⟩ := (hm.below hbx hml).update hn hN s
  rw [hsv, ← eta16 hz] at hrun
  have e0 : w1.cell? ⟨p, o, none⟩ = some (.int .i64 (c : Int)) := by rw [World.cell?_of_block (w := wx) (hg1.block p (Nat.lt_of_lt_of_le hl hbx.size) (by simp; exact hpm))]; exact d0
  have k0 : w1.frozen? ⟨p, o, none⟩ = false := by
    have := hg1.block p (Nat.lt_of_lt_of_le hl hbx.size) (by simp; exact hpm)
    simp [World.frozen?, this] at g0 ⊢
    exact g0
  have HM := hide hm1
  have HG := hide hg1
  have HB := hide hbx
  clear hm hm1 hg1 hbx hcs hsv
  rw [hwx] at hload hrun d0 d1
  go_enter Tryz.func140, Tryz.ntmps140
  go_wp2_with fail
  go_region
  clear hload hrun d0 d1
  clear hwx g0
  have hbig : ∀ v, SecMap (w1.setCell ⟨p, o, none⟩ v) m (N + 1) (updS f n s) ∧ (w1.setCell ⟨p, o, none⟩ v).cell? ⟨p, o, none⟩ = some v ∧ Put2 p o m w (w1.setCell ⟨p, o, none⟩ v) := fun v => by
    have hb := unhide HB
    have hg := unhide HG
    refine ⟨(unhide HM).block (Below.heap_setCell _ _ _ _ (fun e => hpm e.symm)), World.cell?_setCell_same _ _ _ e0, ⟨hg.os.trans hb.os, hg.tape.trans hb.tape, hg.output.trans hb.output, by simp [World.setCell]; exact Nat.le_trans hb.size hg.size, fun k hk hkm hl => ?_, fun j hj => ?_, fun j => ?_, fun cur t fr h => setCell_kind ((hg.block p (Nat.lt_of_lt_of_le hl hb.size) (by simp; exact hpm)).trans ((hb.block p hl).trans h))⟩⟩
    · rw [Below.heap_setCell _ _ _ _ hk, hg.block k (Nat.lt_of_lt_of_le hl hb.size) (by simp; exact hkm), hb.block k hl]
    · rw [World.cell?_setCell_other _ _ _ _ (by intro e; injection e; omega), World.cell?_of_block (w := wx) (hg.block p (Nat.lt_of_lt_of_le hl hb.size) (by simp; exact hpm)), hb.cell (p := ⟨p, j, none⟩) hl]
    · have h1 := hg.block p (Nat.lt_of_lt_of_le hl hb.size) (by simp; exact hpm)
      have h2 := hb.block p hl
      rw [World.frozen?_setCell]
      simp [World.frozen?, h1, h2]
  have HH := hide hbig
  clear hbig
  go_wp2_with fail
  all_goals (first
    | (go_end0
       rw [show max c (n + 1) = n + 1 by omega]
       exact ⟨rfl, (unhide HH _).1, (unhide HH _).2.1, (unhide HH _).2.2⟩)
    | (go_end0
       rw [show max c (n + 1) = c by omega]
       exact ⟨rfl, (unhide HH _).1, (unhide HH _).2.1, (unhide HH _).2.2⟩)
    | (go_end0
       exact ⟨rfl, (unhide HH _).1, (by rw [show ((max c (n + 1) : Nat) : Int) = max (c : Int) ((n : Int) + 1) by omega]; exact (unhide HH _).2.1), (unhide HH _).2.2⟩))
end Go.Proofs.YtcflepnckjappaaGreat

namespace Go.Proofs.YtcflepnckjappaaGreat
open Go.RowKit Go.Maps

/-- The cells of a sector that waits. -/
def wcells (d : WD) : List Value := .int .i64 d.at_ :: d.xs.map (Value.int .u8)
def allCells (ws : List WD) : List Value := ws.flatMap wcells
theorem allCells_snoc (ws : List WD) (d : WD) : allCells (ws ++ [d]) = allCells ws ++ wcells d := by simp [allCells]
/-- What a device has: sectors that are held, sectors that are read, and those that wait. -/
structure DS where
  hc : Nat
  hf : Nat → List Int
  rc : Nat
  rf : Nat → List Int
  ws : List WD
def secOK (c : Nat) (f : Nat → List Int) : Prop := c ≤ 128 ∧ (∀ i, (f i).length = 16) ∧ ∀ i, c ≤ i → f i = nou
def WDok (d : WD) : Prop := 0 ≤ d.at_ ∧ d.at_ ≤ 127 ∧ d.xs.length = 16
structure DevAt (w : World) (base p mh mr : Nat) (v : Value) (N : Nat) (S : DS) : Prop where
  c0 : w.cell? ⟨p, 0, none⟩ = some (.int .i64 (S.hc : Int))
  c1 : w.cell? ⟨p, 1, none⟩ = some (.map (some mh))
  c2 : w.cell? ⟨p, 2, none⟩ = some (.int .i64 (S.rc : Int))
  c3 : w.cell? ⟨p, 3, none⟩ = some (.map (some mr))
  c4 : w.cell? ⟨p, 4, none⟩ = some v
  kind : ∃ cur, w.heap[p]? = some (.cells cur 128 (0, 0))
  held : SecMap w mh N S.hf
  read : SecMap w mr N S.rf
  wait : w.ownsRow base 262 17 v S.ws.length (allCells S.ws)
  low : base ≤ p ∧ base ≤ mh ∧ base ≤ mr
  apart : p ≠ mh ∧ p ≠ mr ∧ mh ≠ mr
  far : ∀ b, v.ownBlock = some b → b ≠ p ∧ b ≠ mh ∧ b ≠ mr
  hok : secOK S.hc S.hf
  rok : secOK S.rc S.rf
  wok : ∀ d ∈ S.ws, WDok d
theorem DevAt.free {w : World} {base p mh mr N : Nat} {v : Value} {S : DS} (h : DevAt w base p mh mr v N S) (j : Nat) : w.frozen? ⟨p, j, none⟩ = false := by
  obtain ⟨cur, hk⟩ := h.kind
  simp [World.frozen?, hk]
theorem DevAt.mono {w : World} {base p mh mr N N' : Nat} {v : Value} {S : DS} (h : DevAt w base p mh mr v N S) (hN : N ≤ N') : DevAt w base p mh mr v N' S :=
  ⟨h.c0, h.c1, h.c2, h.c3, h.c4, h.kind, h.held.mono hN, h.read.mono hN, h.wait, h.low, h.apart, h.far, h.hok, h.rok, h.wok⟩
theorem cell_of {w w' : World} {b j : Nat} (e : w'.heap[b]? = w.heap[b]?) : w'.cell? ⟨b, j, none⟩ = w.cell? ⟨b, j, none⟩ := World.cell?_of_block (w := w) (a := ⟨b, j, none⟩) e
/-- All the device's own blocks are as they were. -/
theorem DevAt.kept {w w' : World} {base p mh mr N : Nat} {v : Value} {S : DS} (h : DevAt w base p mh mr v N S) (hk : ∀ k, k < w.heap.size → k = p ∨ k = mh ∨ k = mr ∨ v.ownBlock = some k → w'.heap[k]? = w.heap[k]?) : DevAt w' base p mh mr v N S := by
  have hp : p < w.heap.size := cell_lt h.c0
  have e := hk p hp (.inl rfl)
  refine ⟨?_, ?_, ?_, ?_, ?_, ?_, h.held.block (hk mh h.held.lt (.inr (.inl rfl))), h.read.block (hk mr h.read.lt (.inr (.inr (.inl rfl)))), ?_, h.low, h.apart, h.far, h.hok, h.rok, h.wok⟩
  · exact (cell_of (j := 0) e).trans h.c0
  · exact (cell_of (j := 1) e).trans h.c1
  · exact (cell_of (j := 2) e).trans h.c2
  · exact (cell_of (j := 3) e).trans h.c3
  · exact (cell_of (j := 4) e).trans h.c4
  · obtain ⟨cur, hc⟩ := h.kind
    exact ⟨cur, e.trans hc⟩
  · obtain ⟨h1, h2⟩ := h.wait
    refine ⟨h1, ?_⟩
    rcases h2 with h2 | ⟨g, cap, cur, rfl, hb, hh, r⟩
    · exact .inl h2
    · exact .inr ⟨g, cap, cur, rfl, hb, (hk g ((Array.getElem?_eq_some_iff.1 hh).1) (.inr (.inr (.inr rfl)))).trans hh, r⟩
theorem DevAt.below {w w' : World} {base p mh mr N : Nat} {v : Value} {S : DS} (h : DevAt w base p mh mr v N S) (hb : Below w.heap.size w w') : DevAt w' base p mh mr v N S := h.kept fun k hk _ => hb.block k hk
/-- A put into what is read. -/
theorem DevAt.putRead {w w' : World} {base p mh mr N n : Nat} {v : Value} {S : DS} {s : List Int} (h : DevAt w base p mh mr v N S) (h16 : s.length = 16) (hn : n < 128) (hm : SecMap w' mr (N + 1) (updS S.rf n s)) (hc : w'.cell? ⟨p, 2, none⟩ = some (.int .i64 ((max S.rc (n + 1) : Nat) : Int))) (hp : Put2 p 2 mr w w') :
    DevAt w' base p mh mr v (N + 1) { S with rc := max S.rc (n + 1), rf := updS S.rf n s } ∧ Below base w w' := by
  obtain ⟨cur, hk⟩ := h.kind
  refine ⟨⟨(hp.cell 0 (by decide)).trans h.c0, (hp.cell 1 (by decide)).trans h.c1, hc, (hp.cell 3 (by decide)).trans h.c3, (hp.cell 4 (by decide)).trans h.c4, hp.kind _ _ _ hk, (h.held.mono (Nat.le_succ _)).block (hp.block _ (fun e => h.apart.1 e.symm) h.apart.2.2 h.held.lt), hm, ?_, h.low, h.apart, h.far, h.hok, ?_, h.wok⟩, ?_⟩
  · obtain ⟨h1, h2⟩ := h.wait
    refine ⟨h1, ?_⟩
    rcases h2 with h2 | ⟨g, cap, cur, rfl, hb, hh, r⟩
    · exact .inl h2
    · have hf := h.far g rfl
      exact .inr ⟨g, cap, cur, rfl, hb, (hp.block g hf.1 hf.2.2 ((Array.getElem?_eq_some_iff.1 hh).1)).trans hh, r⟩
  · obtain ⟨r1, r2, r3⟩ := h.rok
    refine ⟨by simp only; omega, fun i => ?_, fun i hi => ?_⟩
    · simp only [updS]; split
      · exact h16
      · exact r2 i
    · simp only [updS] at hi ⊢
      rw [if_neg (by omega)]
      exact r3 i (by omega)
  · exact ⟨hp.os, hp.tape, hp.output, hp.size, fun k hk' => hp.block k (by have := h.low; omega) (by have := h.low; omega) (Nat.lt_of_lt_of_le hk' (Nat.le_trans h.low.1 (Nat.le_of_lt (cell_lt h.c0))))⟩
def Dev (w : World) (base p N : Nat) (S : DS) : Prop := ∃ mh mr v, DevAt w base p mh mr v N S
theorem Tryz.infoWS : (Tryz.prog.info? 262).map (fun i => (i.zero, i.size, i.bytes)) = some (some (.agg (Value.int .i64 0 :: List.replicate 16 (Value.int .u8 0)).toArray), 17, 24) := by kernel_rfl
theorem wcells_one (d : WD) : ∀ u ∈ wcells d, u.oneCell' = true := by
  intro u hu
  rcases List.mem_cons.1 hu with rfl | hu
  · rfl
  · exact all_u8 _ u hu
/-- Rows that are no part of a device stay. -/
def KeepB (w w' : World) : Prop := ∀ (k : Nat) (cur : Array Value) (t : TypeId) (fr : Nat × Nat), w.heap[k]? = some (Obj.cells cur t fr) → t ≠ 128 → t ≠ 262 → w'.heap[k]? = w.heap[k]?
theorem KeepB.refl (w : World) : KeepB w w := fun _ _ _ _ _ _ _ => rfl
theorem KeepB.trans {w1 w2 w3 : World} (h : KeepB w1 w2) (k : KeepB w2 w3) : KeepB w1 w3 := fun i c t f hi h1 h2 => (k i c t f ((h i c t f hi h1 h2).trans hi) h1 h2).trans (h i c t f hi h1 h2)
theorem KeepB.of_below {w w' : World} (h : Below w.heap.size w w') : KeepB w w' := fun i _ _ _ hi _ _ => h.block i (Array.getElem?_eq_some_iff.1 hi).1
/-- What leaves all but a device's own blocks leaves those rows. -/
theorem KeepB.of_dev {w w' : World} {base p mh mr N : Nat} {v : Value} {S : DS} (h : DevAt w base p mh mr v N S) (hk : ∀ k, k < w.heap.size → k ≠ p → k ≠ mh → k ≠ mr → v.ownBlock ≠ some k → w'.heap[k]? = w.heap[k]?) : KeepB w w' := fun k cur t fr e h1 h2 => by
  refine hk k (Array.getElem?_eq_some_iff.1 e).1 (fun q => ?_) (fun q => ?_) (fun q => ?_) (fun q => ?_)
  · obtain ⟨c, hc⟩ := h.kind
    rw [q, hc] at e
    injection e with e
    injection e with _ e
    exact h1 e.symm
  · obtain ⟨D, ⟨es, clock, hm, _⟩, _⟩ := h.held
    rw [q, hm] at e
    cases e
  · obtain ⟨D, ⟨es, clock, hm, _⟩, _⟩ := h.read
    rw [q, hm] at e
    cases e
  · rcases h.wait.2 with ⟨rfl, _⟩ | ⟨g, cap, cu, rfl, _, hg, _⟩
    · cases q
    · injection q with q
      rw [← q, hg] at e
      injection e with e
      injection e with _ e
      exact h2 e.symm
end Go.Proofs.YtcflepnckjappaaGreat

namespace Go.Proofs.YtcflepnckjappaaGreat
open Go.RowKit Go.Maps

/-- An append whose run is known, as one step of a region that draws. -/
theorem step_append_eq {P : Program} {ops : Array Oper} {o : Oper} {a : Act} {w : World} {K : Act → World → Prop} {Q : Exit → Act → World → Prop} {E : Prop}
    (hg : o.guard = none) (s x : Operand) (t : TypeId) (hop : o.op = Op.call { callee := Callee.builtin Builtin.append, args := #[s, x], argTypes := #[t, t] })
    (vs vx v' : Value) (w' : World) (hs : a.eval s = vs) (hx : a.eval x = vx) (hrun : (Builtin.append_ #[t, t] o.type #[vs, vx]).run P w = .ok v' w') (hK : K (a.put o.dst v') w') :
    if Region.wanted o (yielded ops a.tmps) = true then Oper.wp P o a w K Q else E := by
  have hw : Region.wanted o (yielded ops a.tmps) = true := by simp [Region.wanted, hg]
  rw [if_pos hw]
  unfold Oper.wp
  simp [execOp, hop, resolve, invoke, builtin, hs, hx, hrun, Result.andThen]
  exact hK
theorem wlit {n : Nat} {s : List Int} {cs : Array Value} (hcs : cs = (s.map (Value.int .u8)).toArray) (hz : cs.size = 16) : (#[.int .i64 (n : Int), cs[0], cs[1], cs[2], cs[3], cs[4], cs[5], cs[6], cs[7], cs[8], cs[9], cs[10], cs[11], cs[12], cs[13], cs[14], cs[15]] : Array Value) = (wcells ⟨n, s⟩).toArray := by
  have := eta16 hz
  have e : (wcells ⟨n, s⟩).toArray = #[.int .i64 (n : Int)] ++ cs := by rw [hcs]; simp [wcells]
  rw [e]
  conv => rhs; rw [← this]
  rfl
theorem ownsRow_drew {w : World} {base e size n : Nat} {v : Value} {xs : List Value} (h : w.ownsRow base e size v n xs) : w.drew.ownsRow base e size v n xs := h
set_option maxRecDepth 100000 in
set_option maxHeartbeats 2000000 in
theorem wait_keep (base p N n : Nat) (S : DS) (s : List Int) (w : World) (hD : Dev w base p N S) (hN : N < maxLen) (hw : S.ws.length ≤ 1000000) (h16 : s.length = 16) (hn : n < 128) :
    Calls Tryz.prog 143 #[.pointer (some ⟨p, 0, none⟩), .int .i64 (n : Int), secV s] w fun e w' => e = .returned (.tuple #[]) ∧ Dev w' base p (N + 1) { S with rc := max S.rc (n + 1), rf := updS S.rf n s, ws := S.ws ++ [⟨n, s⟩] } ∧ Below base w w' ∧ KeepB w w' := by
  obtain ⟨mh, mr, v, hd⟩ := hD
  obtain ⟨i0, hi, hz0, hz1, hz2⟩ := info_parts Tryz.infoWS
  obtain ⟨cs, hcs⟩ : ∃ cs, cs = (s.map (Value.int .u8)).toArray := ⟨_, rfl⟩
  have hsv : secV s = .agg cs := by rw [hcs]; rfl
  have hz : cs.size = 16 := by rw [hcs]; simp [h16]
  have hL := wlit (n := n) hcs hz
  have c4 := hd.c4
  have hpl : p < w.heap.size := cell_lt hd.c0
  have hbp := hd.low.1
  have hlen : (wcells ⟨n, s⟩).length = 17 := by simp [wcells, h16]
  -- the append, ahead of the walk
  have ho1 : ((w.alloc (.cells cs 226)).drew.alloc (.cells #[.int .i64 (n : Int), cs[0], cs[1], cs[2], cs[3], cs[4], cs[5], cs[6], cs[7], cs[8], cs[9], cs[10], cs[11], cs[12], cs[13], cs[14], cs[15]] 262)).ownsRow base 262 17 v S.ws.length (allCells S.ws) := (ownsRow_drew (hd.wait.alloc _)).alloc _
  obtain ⟨v', w1, hrun, hown1, hg1, _⟩ := run_append_own (P := Tryz.prog) ((w.alloc (.cells cs 226)).drew.alloc (.cells #[.int .i64 (n : Int), cs[0], cs[1], cs[2], cs[3], cs[4], cs[5], cs[6], cs[7], cs[8], cs[9], cs[10], cs[11], cs[12], cs[13], cs[14], cs[15]] 262)) base 126 126 262 i0 _ 17 24 Tryz.underlying126 hi hz0 hz1 hz2 rfl (by decide) v S.ws.length (allCells S.ws) ho1
    ⟨w.heap.size + 1, 0, none⟩ 1 1 (wcells ⟨n, s⟩) (by rw [hlen]) (fun j u hj => by rw [Addr.add_mid, Nat.zero_add, cell_new (by simp), hL]; simpa using hj) (wcells_one _) (by unfold maxLen; omega) (by omega) (by simp; omega)
  rw [← allCells_snoc] at hown1
  obtain ⟨g1, cap1, rfl⟩ : ∃ g cap, v' = .slice (some ⟨g, 0, none⟩) (S.ws.length + 1) cap := by
    rcases hown1.2 with ⟨_, h⟩ | ⟨g, cap, _, h, _⟩
    · omega
    · exact ⟨g, cap, h⟩
  have hvl : ∀ k, v.ownBlock = some k → k < w.heap.size := fun k hk => (hd.wait.lt k hk).2
  have K1 : ∀ k, k < w.heap.size → some k ≠ v.ownBlock → w1.heap[k]? = w.heap[k]? := fun k hk hne => by
    have b : Below w.heap.size w ((w.alloc (.cells cs 226)).drew.alloc (.cells #[.int .i64 (n : Int), cs[0], cs[1], cs[2], cs[3], cs[4], cs[5], cs[6], cs[7], cs[8], cs[9], cs[10], cs[11], cs[12], cs[13], cs[14], cs[15]] 262)) := (bel_drewN (n := 1) ((Below.refl _ _).alloc (Nat.le_refl _) _)).alloc (by simp) _
    rw [hg1.block k (by simp; omega) hne, b.block k hk]
  have S1 : w.heap.size + 2 ≤ w1.heap.size := by have := hg1.size; simp at this; omega
  have T1 : w1.os = w.os ∧ w1.tape = w.tape ∧ w1.output = w.output := ⟨hg1.os, hg1.tape, hg1.output⟩
  have X1 : ∀ j, w1.cell? ⟨w.heap.size, j, none⟩ = cs[j]? := fun j => by
    have e := hg1.block w.heap.size (by simp; omega) (fun e => by have := hvl _ e.symm; omega)
    rw [cell_of e, cell_old (by simp)]
    exact cell_new rfl
  have hpv : some p ≠ v.ownBlock := fun e => (hd.far p e.symm).1 rfl
  have e4 : w1.cell? ⟨p, 4, none⟩ = some v := (cell_of (K1 p hpl hpv)).trans c4
  have f4 : w1.frozen? ⟨p, 4, none⟩ = false := by
    have := hd.free 4
    simp only [World.frozen?, K1 p hpl hpv] at this ⊢
    exact this
  -- behind the first line
  obtain ⟨w2, hw2⟩ : ∃ w2, w2 = w1.setCell ⟨p, 4, none⟩ (.slice (some ⟨g1, 0, none⟩) (S.ws.length + 1) cap1) := ⟨_, rfl⟩
  have D2 : DevAt w2 base p mh mr (.slice (some ⟨g1, 0, none⟩) (S.ws.length + 1) cap1) N { S with ws := S.ws ++ [⟨n, s⟩] } := by
    have ot : ∀ j, j ≠ 4 → w2.cell? ⟨p, j, none⟩ = w.cell? ⟨p, j, none⟩ := fun j hj => by rw [hw2, World.cell?_setCell_other _ _ _ _ (by intro e; injection e; omega)]; exact cell_of (K1 p hpl hpv)
    have bl : ∀ k, k ≠ p → w2.heap[k]? = w1.heap[k]? := fun k hk => by rw [hw2]; exact Below.heap_setCell _ _ _ _ hk
    obtain ⟨cur, hk⟩ := hd.kind
    have hk1 := (K1 p hpl hpv).trans hk
    have hmh : some mh ≠ v.ownBlock := fun e => (hd.far mh e.symm).2.1 rfl
    have hmr : some mr ≠ v.ownBlock := fun e => (hd.far mr e.symm).2.2 rfl
    have far1 : ∀ b, (Value.slice (some ⟨g1, 0, none⟩) (S.ws.length + 1) cap1).ownBlock = some b → b ≠ p ∧ b ≠ mh ∧ b ≠ mr := fun b hb => by
      obtain ⟨_, h2⟩ := hown1
      rcases h2 with ⟨h0, _⟩ | ⟨g, cap, cur1, h0, _, hh, _⟩
      · cases h0
      · injection h0 with h0 _ _
        injection h0 with h0
        injection h0 with h0
        subst h0
        have hb : g1 = b := by simpa [Value.ownBlock] using hb
        subst hb
        refine ⟨fun e => ?_, fun e => ?_, fun e => ?_⟩
        · subst e
          rw [hk1] at hh
          injection hh with hh
          injection hh with _ hh
          exact absurd hh (by decide)
        · subst e
          obtain ⟨D, ⟨es, clock, hm, _⟩, _⟩ := hd.held
          rw [K1 _ hd.held.lt hmh, hm] at hh
          cases hh
        · subst e
          obtain ⟨D, ⟨es, clock, hm, _⟩, _⟩ := hd.read
          rw [K1 _ hd.read.lt hmr, hm] at hh
          cases hh
    refine ⟨(ot 0 (by decide)).trans hd.c0, (ot 1 (by decide)).trans hd.c1, (ot 2 (by decide)).trans hd.c2, (ot 3 (by decide)).trans hd.c3, ?_, ?_, hd.held.block ((bl _ (fun e => hd.apart.1 e.symm)).trans (K1 _ hd.held.lt hmh)), hd.read.block ((bl _ (fun e => hd.apart.2.1 e.symm)).trans (K1 _ hd.read.lt hmr)), ?_, hd.low, hd.apart, far1, hd.hok, hd.rok, ?_⟩
    · rw [hw2]; exact World.cell?_setCell_same _ _ _ e4
    · rw [hw2]; exact setCell_kind hk1
    · obtain ⟨h1, h2⟩ := hown1
      refine ⟨by simpa using h1, ?_⟩
      rcases h2 with ⟨_, h2⟩ | ⟨g, cap, cur1, h0, hb, hh, r⟩
      · omega
      · have hg : g1 = g := by injection h0 with h0 _ _; injection h0 with h0; injection h0
        exact .inr ⟨g, cap, cur1, by rw [h0]; simp, hb, (bl g (far1 g (by rw [← hg]; rfl)).1).trans hh, by simpa using r⟩
    · intro d hd'
      rcases List.mem_append.1 hd' with h | h
      · exact hd.wok d h
      · obtain rfl : d = ⟨n, s⟩ := by simpa using h
        exact ⟨by simp, by simp; omega, h16⟩
  have B2 : Below base w w2 := by
    have hlow := hd.low.1
    refine ⟨by rw [hw2]; exact T1.1, by rw [hw2]; exact T1.2.1, by rw [hw2]; exact T1.2.2, by rw [hw2]; simp [World.setCell]; omega, fun k hk => ?_⟩
    rw [hw2, Below.heap_setCell _ _ _ _ (by simp; omega)]
    exact K1 k (by omega) (fun e => by have := (hd.wait.lt k e.symm).1; omega)
  have HK := hide (show ∀ w3 : World, (∀ k, k ≠ p → k ≠ mr → k < w2.heap.size → w3.heap[k]? = w2.heap[k]?) → KeepB w w3 from fun w3 h3 => KeepB.of_dev hd fun k hk h1 _ h2 hv => (h3 k h1 h2 (by rw [hw2]; simp [World.setCell]; omega)).trans (by rw [hw2, Below.heap_setCell _ _ _ _ h1]; exact K1 k hk (fun e => hv e.symm)))
  have X2 : ∀ j, w2.cell? ⟨w.heap.size, j, none⟩ = cs[j]? := fun j => by rw [hw2, World.cell?_setCell_other _ _ _ _ (by intro e; injection e; omega)]; exact X1 j
  have y0 : w2.cell? ⟨w.heap.size, 0, none⟩ = some cs[0] := (X2 0).trans (Array.getElem?_eq_getElem (by omega))
  have y1 : w2.cell? ⟨w.heap.size, 1, none⟩ = some cs[1] := (X2 1).trans (Array.getElem?_eq_getElem (by omega))
  have y2 : w2.cell? ⟨w.heap.size, 2, none⟩ = some cs[2] := (X2 2).trans (Array.getElem?_eq_getElem (by omega))
  have y3 : w2.cell? ⟨w.heap.size, 3, none⟩ = some cs[3] := (X2 3).trans (Array.getElem?_eq_getElem (by omega))
  have y4 : w2.cell? ⟨w.heap.size, 4, none⟩ = some cs[4] := (X2 4).trans (Array.getElem?_eq_getElem (by omega))
  have y5 : w2.cell? ⟨w.heap.size, 5, none⟩ = some cs[5] := (X2 5).trans (Array.getElem?_eq_getElem (by omega))
  have y6 : w2.cell? ⟨w.heap.size, 6, none⟩ = some cs[6] := (X2 6).trans (Array.getElem?_eq_getElem (by omega))
  have y7 : w2.cell? ⟨w.heap.size, 7, none⟩ = some cs[7] := (X2 7).trans (Array.getElem?_eq_getElem (by omega))
  have y8 : w2.cell? ⟨w.heap.size, 8, none⟩ = some cs[8] := (X2 8).trans (Array.getElem?_eq_getElem (by omega))
  have y9 : w2.cell? ⟨w.heap.size, 9, none⟩ = some cs[9] := (X2 9).trans (Array.getElem?_eq_getElem (by omega))
  have y10 : w2.cell? ⟨w.heap.size, 10, none⟩ = some cs[10] := (X2 10).trans (Array.getElem?_eq_getElem (by omega))
  have y11 : w2.cell? ⟨w.heap.size, 11, none⟩ = some cs[11] := (X2 11).trans (Array.getElem?_eq_getElem (by omega))
  have y12 : w2.cell? ⟨w.heap.size, 12, none⟩ = some cs[12] := (X2 12).trans (Array.getElem?_eq_getElem (by omega))
  have y13 : w2.cell? ⟨w.heap.size, 13, none⟩ = some cs[13] := (X2 13).trans (Array.getElem?_eq_getElem (by omega))
  have y14 : w2.cell? ⟨w.heap.size, 14, none⟩ = some cs[14] := (X2 14).trans (Array.getElem?_eq_getElem (by omega))
  have y15 : w2.cell? ⟨w.heap.size, 15, none⟩ = some cs[15] := (X2 15).trans (Array.getElem?_eq_getElem (by omega))
  have HD2 := hide D2
  have HB2 := hide B2
  have hP := fun (x : World) (hx : SecMap x mr N S.rf) => put_any p 2 mr N n S.rc S.rf s x h16 hx hN hn
  rw [hsv] at hP ⊢
  rw [show (Value.agg cs) = .agg #[cs[0], cs[1], cs[2], cs[3], cs[4], cs[5], cs[6], cs[7], cs[8], cs[9], cs[10], cs[11], cs[12], cs[13], cs[14], cs[15]] by rw [eta16 hz]] at hP
  have HP := hide hP
  clear hd D2 B2 hcs hsv hown1 hg1 X1 X2 K1 S1 T1 ho1 hL hP
  go_enter Tryz.func143, Tryz.ntmps143
  go_wp2_with fail
  go_region_law (refine step_append_eq rfl (.tmp 10) (.tmp 14) 126 rfl _ _ _ w1 rfl rfl hrun ?_)
  all_goals
    rw [← hw2]
    clear hrun e4 f4 c4 hw2 hvl hpv hi hz0 hz1 hz2
    go_wp2_with fail
    go_region_with (go_at_call 140; refine (unhide HP w2.drew (unhide HD2).read (unhide HD2).c2 (unhide HD2).c3 ((unhide HD2).free 2) (unhide HD2).apart.2.1).mono ?_; rintro e w3 ⟨rfl, hm3, hc3, hp3⟩)
    all_goals
      have D3 := hide ((unhide HD2).putRead h16 hn hm3 hc3 (show Put2 p 2 mr w2 w3 from ⟨hp3.os, hp3.tape, hp3.output, hp3.size, hp3.block, hp3.cell, hp3.frozen, hp3.kind⟩))
      have K3 := hide (unhide HK w3 hp3.block)
      clear hm3 hc3 hp3
      go_wp2_with fail
      go_end0
      exact ⟨rfl, ⟨mh, mr, _, (unhide D3).1⟩, (unhide HB2).trans (unhide D3).2, unhide K3⟩
theorem wait_any (base p N n : Nat) (S : DS) (s : List Int) (w : World) (hD : Dev w base p N S) (hN : N < maxLen) (hw : S.ws.length ≤ 1000000) (h16 : s.length = 16) (hn : n < 128) :
    Calls Tryz.prog 143 #[.pointer (some ⟨p, 0, none⟩), .int .i64 (n : Int), secV s] w fun e w' => e = .returned (.tuple #[]) ∧ Dev w' base p (N + 1) { S with rc := max S.rc (n + 1), rf := updS S.rf n s, ws := S.ws ++ [⟨n, s⟩] } ∧ Below base w w' :=
  (wait_keep base p N n S s w hD hN hw h16 hn).mono fun _ _ ⟨h1, h2, h3, _⟩ => ⟨h1, h2, h3⟩
end Go.Proofs.YtcflepnckjappaaGreat

namespace Go.Proofs.YtcflepnckjappaaGreat
open Go.RowKit Go.Maps

set_option maxHeartbeats 1000000 in
theorem secs_clone_any (p o m N c : Nat) (f : Nat → List Int) (w : World) (hm : SecMap w m N f) (c0 : w.cell? ⟨p, o, none⟩ = some (.int .i64 (c : Int))) (c1 : w.cell? ⟨p, o + 1, none⟩ = some (.map (some m))) :
    Calls Tryz.prog 142 #[.pointer (some ⟨p, o, none⟩)] w fun e w' => ∃ g, e = .returned (.agg #[.int .i64 (c : Int), .map (some g)]) ∧ w.heap.size ≤ g ∧ SecMap w' g N f ∧ Below w.heap.size w w' := by
  have hl : p < w.heap.size := cell_lt c0
  have hbx : ∀ o, Below w.heap.size w (w.alloc o) := fun o => (Below.refl _ _).alloc (Nat.le_refl _) _
  have HB := hide hbx
  have d0 : ∀ ob, (w.alloc ob).cell? ⟨p, o, none⟩ = some (.int .i64 (c : Int)) := fun ob => ((hbx ob).cell (p := ⟨p, o, none⟩) hl).trans c0
  have d1 : ∀ ob, (w.alloc ob).cell? ⟨p, o + 1, none⟩ = some (.map (some m)) := fun ob => ((hbx ob).cell (p := ⟨p, o + 1, none⟩) hl).trans c1
  have HM := hide fun ob => hm.below (hbx ob) hm.lt
  clear hbx hm
  go_enter Tryz.func142, Tryz.ntmps142
  go_wp2_with fail
  generalize hwx : w.alloc (.cells #[.int .i64 0, .map none] 125) = wx at *
  have e0 : wx.cell? ⟨p, o, none⟩ = some (.int .i64 (c : Int)) := by rw [← hwx]; exact d0 _
  have e1 : wx.cell? ⟨p, o + 1, none⟩ = some (.map (some m)) := by rw [← hwx]; exact d1 _
  have k0 : wx.cell? ⟨w.heap.size, 0, none⟩ = some (.int .i64 0) := by rw [← hwx]; exact (cell_new rfl).trans rfl
  have k1 : wx.cell? ⟨w.heap.size, 1, none⟩ = some (.map none) := by rw [← hwx]; exact (cell_new rfl).trans rfl
  have q : ∀ j, wx.frozen? ⟨w.heap.size, j, none⟩ = false := fun j => by rw [← hwx]; exact frozen_new rfl
  have hsz : wx.heap.size = w.heap.size + 1 := by rw [← hwx]; simp
  have M := hide (show SecMap wx m N f by rw [← hwx]; exact unhide HM _)
  have B := hide (show Below w.heap.size w wx by rw [← hwx]; exact unhide HB _)
  clear hwx d0 d1 HM HB
  go_region_with (go_at_call 222; (first | refine (mapsClone_any m N f wx.drew (unhide M)).mono ?_ | refine (mapsClone_any m N f wx (unhide M)).mono ?_); rintro e w1 ⟨rfl, hm1, hb1⟩; replace hb1 : Below wx.heap.size wx w1 := ⟨hb1.os, hb1.tape, hb1.output, hb1.size, hb1.block⟩; have y0 := (hb1.cell (p := ⟨p, o, none⟩) (show p < wx.heap.size by omega)).trans e0; have y1 := (hb1.cell (p := ⟨w.heap.size, 0, none⟩) (show w.heap.size < wx.heap.size by omega)).trans k0; have y2 := (hb1.cell (p := ⟨w.heap.size, 1, none⟩) (show w.heap.size < wx.heap.size by omega)).trans k1; have z1 := (hb1.frozen (p := ⟨w.heap.size, 0, none⟩) (show w.heap.size < wx.heap.size by omega)).trans (q 0); have z2 := (hb1.frozen (p := ⟨w.heap.size, 1, none⟩) (show w.heap.size < wx.heap.size by omega)).trans (q 1))
  all_goals
    have M1 := hide (show SecMap w1 (w.heap.size + 1) N f from hsz ▸ hm1)
    have B1 := hide ((((unhide B).trans (hb1.mono (by omega))).setCell (p := ⟨w.heap.size, 0, none⟩) (Nat.le_refl _) (.int .i64 (c : Int))).setCell (p := ⟨w.heap.size, 1, none⟩) (Nat.le_refl _) (.map (some (w.heap.size + 1))))
    have hlt : w.heap.size < w1.heap.size := by have := hb1.size; omega
    clear hm1 hb1 e0 e1 k0 k1 q M B
    go_wp2_with fail
    refine bodyPost_ret (v := .agg #[.int .i64 (c : Int), .map (some (w.heap.size + 1))]) (by simp [results, Tryz.results142, go_sem, y1, y2]) rfl ⟨w.heap.size + 1, rfl, by omega, ?_, unhide B1⟩
    exact (unhide M1).block (by rw [Below.heap_setCell _ _ _ _ (by simp), Below.heap_setCell _ _ _ _ (by simp)])
end Go.Proofs.YtcflepnckjappaaGreat

namespace Go.Proofs.YtcflepnckjappaaGreat
open Go.RowKit

def okW (d : WD) : Bool := decide (0 ≤ d.at_ ∧ d.at_ ≤ 127 ∧ d.xs.length = 16)
def okD (nh : Nat) (ws : List WD) : Bool := decide (nh % 16 = 0 ∧ nh ≤ 2048 ∧ ws.length ≤ 4096) && ws.all okW
theorem okD_bad {nh : Nat} {ws : List WD} (h : ¬ (nh % 16 = 0 ∧ nh ≤ 2048 ∧ ws.length ≤ 4096)) : okD nh ws = false := by unfold okD; rw [decide_eq_false h]; rfl
theorem okD_all {nh : Nat} {ws : List WD} (h : nh % 16 = 0 ∧ nh ≤ 2048 ∧ ws.length ≤ 4096) : okD nh ws = ws.all okW := by unfold okD; rw [decide_eq_true h]; rfl
theorem all_of {ws : List WD} (h : ∀ i (hi : i < ws.length), okW ws[i] = true) : ws.all okW = true := by
  rw [List.all_eq_true]
  intro x hx
  obtain ⟨i, hi, rfl⟩ := List.mem_iff_getElem.1 hx
  exact h i hi
theorem not_all {ws : List WD} {k : Nat} (hk : k < ws.length) (h : okW ws[k] = false) : ws.all okW = false := by
  rw [List.all_eq_false]
  exact ⟨_, List.getElem_mem hk, by simp [h]⟩
theorem l01In_f (p lo hi : Int) (w : World) : Calls Tryz.prog 129 #[.int .i64 p, .int .i64 lo, .int .i64 hi] w fun e w' => e = .returned (.bool (decide (lo ≤ p) && decide (p ≤ hi))) ∧ w' = w := by
  go_enter Tryz.func129, Tryz.ntmps129
  go_wp2_with fail
  all_goals go_ret
  all_goals exact ⟨ret_bool (by simp_all; try omega), rfl⟩
theorem l02Size_any (w : World) : Calls Tryz.prog 180 #[] w fun e w' => e = .returned (.int .i64 2048) ∧ w' = w := by
  go_enter Tryz.func180, Tryz.ntmps180
  go_wp2_with fail
  go_ret
  exact ⟨rfl, rfl⟩
theorem sectorNumberOK_any (p : Int) (w : World) : Calls Tryz.prog 134 #[.int .i64 p] w fun e w' => e = .returned (.bool (decide (0 ≤ p ∧ p ≤ 127))) ∧ w' = w := by
  by_cases h : 0 ≤ p ∧ p ≤ 127
  · have h1 := h.1
    have h2 : p < 128 := by omega
    go_enter Tryz.func134, Tryz.ntmps134
    go_wp2_with fail
    go_ret
    exact ⟨ret_bool (by simp [h]), rfl⟩
  · by_cases h1 : 0 ≤ p
    · have h2 : ¬ p < 128 := by omega
      go_enter Tryz.func134, Tryz.ntmps134
      go_wp2_with fail
      go_ret
      exact ⟨ret_bool (by simp; omega), rfl⟩
    · go_enter Tryz.func134, Tryz.ntmps134
      go_wp2_with fail
      go_ret
      exact ⟨ret_bool (by simp), rfl⟩

set_option maxHeartbeats 1000000 in
theorem specFlashOK_any (ah : Option Addr) (nh ch : Nat) (aw : Option Addr) (nw cw : Nat) (ws : List WD) (w : World) (hnh : nh ≤ maxLen) (hn : nw ≤ maxLen) (hr : WRow w aw nw ws) :
    Calls Tryz.prog 91 #[fv ah nh ch aw nw cw] w fun e w' => e = .returned (.bool (okD nh ws)) ∧ Below w.heap.size w w' := by
  have L := hide hr.1
  have R := hide hr.2
  clear hr
  unfold maxLen at hnh hn
  have t1 : ∀ x : Nat, (x : Int).tmod 16 = ((x % 16 : Nat) : Int) := fun x => by rw [Int.tmod_eq_emod_of_nonneg (by omega)]; omega
  have B0 : ∀ o n, Below w.heap.size w ((w.alloc o).drewN n) := fun o n => bel_drewN ((Below.refl _ _).alloc (Nat.le_refl _) _) _
  by_cases h1 : nh % 16 = 0
  · have q1 : ((nh : Int).tmod 16 != 0) = false := by rw [t1, h1]; rfl
    by_cases h2 : nh ≤ 2048
    · have q2 : decide ((2048 : Int) < (nh : Int)) = false := by simp; omega
      by_cases h3 : nw ≤ 4096
      · have q3 : decide ((4096 : Int) < (nw : Int)) = false := by simp; omega
        have hF := hide (okD_all (ws := ws) (nh := nh) ⟨h1, h2, by rw [unhide L]; exact h3⟩)
        clear t1
        go_enter Tryz.func91, Tryz.ntmps91
        go_wp2_with fail
        go_quiet ((go_at_call 180; exact Calls.quiet_of_same (l02Size_any _)))
        have c0 : ((w.alloc (.cells #[.slice ah nh ch, .slice aw nw cw] 32)).drewN nq).cell? ⟨w.heap.size, 1, none⟩ = some (.slice aw nw cw) := by simp
        have hb := B0 (.cells #[.slice ah nh ch, .slice aw nw cw] 32) nq
        clear q1 q2 q3 B0
        generalize ((w.alloc (.cells #[.slice ah nh ch, .slice aw nw cw] 32)).drewN nq) = wx at *
        go_wp2_with fail
        go_loopw [3] (fun i wr => ∃ k : Nat, k ≤ nw ∧ i = .int .i64 k ∧ Hid (∀ i (hi : i < ws.length), i < k → okW ws[i] = true) ∧ ∃ d, wr = wx.drewN d) (fun i _ => nw - (intOf i).toNat)
        case atStart => exact ⟨0, Nat.zero_le _, rfl, fun i _ hi => absurd hi (Nat.not_lt_zero _), 0, rfl⟩
        case round =>
          obtain ⟨k, hk, rfl, hA, d, hwr⟩ := hrel
          have HWR := hide hwr
          have BR := hide (show Below w.heap.size w wr by rw [hwr]; exact bel_drewN hb d)
          have c1 : wr.cell? ⟨w.heap.size, 1, none⟩ = some (.slice aw nw cw) := by rw [hwr]; exact c0
          clear hwr c0
          by_cases hlt2 : k < nw
          · have hk2 : k < ws.length := by rw [unhide L]; exact hlt2
            obtain ⟨b, off, rfl, e0, a', c', e1, hm, _⟩ := unhide R k hk2
            have hbl : b < w.heap.size := cell_lt e0
            have d0 := ((unhide BR).cell (p := ⟨b, off + k * 2, none⟩) hbl).trans e0
            have d1 := ((unhide BR).cell (p := ⟨b, off + k * 2 + 1, none⟩) hbl).trans e1
            clear e0 e1
            replace hm := hm.1
            unfold maxLen at hm
            have hS := hide (fun (hx : okW ws[k] = true) i (hi : i < ws.length) (h : i < k + 1) => show okW ws[i] = true from if e : i = k then by subst e; exact hx else unhide hA i hi (by omega))
            have hN := hide (fun (hx : okW ws[k] = false) => (unhide hF).trans (not_all hk2 hx))
            clear hA
            generalize ws[k] = pd at *
            by_cases hin : 0 ≤ pd.at_ ∧ pd.at_ ≤ 127
            · have hI : ∀ w, Calls Tryz.prog 129 #[.int .i64 pd.at_, .int .i64 0, .int .i64 127] w fun e w' => e = .returned (.bool true) ∧ w' = w := fun w => by
                have := l01In_f pd.at_ 0 127 w
                rwa [decide_eq_true hin.1, decide_eq_true hin.2] at this
              by_cases h16 : pd.xs.length = 16
              · have q : ((pd.xs.length : Int) != 16) = false := by rw [h16]; rfl
                have hS2 := hide (unhide hS (by unfold okW; exact decide_eq_true ⟨hin.1, hin.2, h16⟩))
                clear hS hN
                go_wp2_with fail
                refine (hI _).mono ?_
                rintro e w2 ⟨rfl, rfl⟩
                go_wp2_with fail
                go_roundw
                case rel => exact ⟨k + 1, by omega, by go_num, unhide hS2, d, unhide HWR⟩
                case measure => simp [intOf]; omega
              · have q : ((pd.xs.length : Int) != 16) = true := by simp; omega
                have hN2 := hide (unhide hN (by unfold okW; exact decide_eq_false (fun h => h16 h.2.2)))
                clear hS hN
                go_wp2_with fail
                refine (hI _).mono ?_
                rintro e w2 ⟨rfl, rfl⟩
                go_wp2_with fail
                go_ret
                exact ⟨ret_bool (unhide hN2).symm, unhide BR⟩
            · have hI : ∀ w, Calls Tryz.prog 129 #[.int .i64 pd.at_, .int .i64 0, .int .i64 127] w fun e w' => e = .returned (.bool false) ∧ w' = w := fun w => by
                have := l01In_f pd.at_ 0 127 w
                have e : (decide (0 ≤ pd.at_) && decide (pd.at_ ≤ 127)) = false := by rw [Bool.and_eq_false_iff]; simp; omega
                rwa [e] at this
              have hN2 := hide (unhide hN (by unfold okW; exact decide_eq_false (fun h => hin ⟨h.1, h.2.1⟩)))
              clear hS hN
              go_wp2_with fail
              refine (hI _).mono ?_
              rintro e w2 ⟨rfl, rfl⟩
              go_wp2_with fail
              go_ret
              exact ⟨ret_bool (unhide hN2).symm, unhide BR⟩
          · obtain rfl : k = nw := by omega
            have hT := hide ((unhide hF).trans (all_of fun i hi => unhide hA i hi (by rw [← unhide L]; exact hi)))
            go_wp2_with fail
            go_ret
            exact ⟨ret_bool (unhide hT).symm, unhide BR⟩
      · have q3 : decide ((4096 : Int) < (nw : Int)) = true := by simp; omega
        have hF := hide (okD_bad (ws := ws) (nh := nh) (by rw [unhide L]; omega))
        clear t1
        go_enter Tryz.func91, Tryz.ntmps91
        go_wp2_with fail
        go_quiet ((go_at_call 180; exact Calls.quiet_of_same (l02Size_any _)))
        go_wp2_with fail
        go_ret
        exact ⟨ret_bool (unhide hF).symm, B0 _ _⟩
    · have q2 : decide ((2048 : Int) < (nh : Int)) = true := by simp; omega
      have hF := hide (okD_bad (ws := ws) (nh := nh) (by omega))
      clear t1
      go_enter Tryz.func91, Tryz.ntmps91
      go_wp2_with fail
      go_quiet ((go_at_call 180; exact Calls.quiet_of_same (l02Size_any _)))
      go_wp2_with fail
      go_ret
      exact ⟨ret_bool (unhide hF).symm, B0 _ _⟩
  · have q1 : ((nh : Int).tmod 16 != 0) = true := by rw [t1]; simp; omega
    have hF := hide (okD_bad (ws := ws) (nh := nh) (by omega))
    clear t1
    go_enter Tryz.func91, Tryz.ntmps91
    go_wp2_with fail
    go_quiet ((go_at_call 180; exact Calls.quiet_of_same (l02Size_any _)))
    go_wp2_with fail
    go_ret
    exact ⟨ret_bool (unhide hF).symm, B0 _ _⟩
end Go.Proofs.YtcflepnckjappaaGreat

namespace Go.Proofs.YtcflepnckjappaaGreat
open Go.RowKit Go.Maps

def secAt (xs : List Int) (n : Nat) : List Int := (xs.drop (n * 16)).take 16
/-- The first k sectors of some bytes. -/
def secFn (xs : List Int) (k : Nat) : Nat → List Int := fun i => if i < k then secAt xs i else nou
theorem secAt_len {xs : List Int} {n m : Nat} (h : xs.length = m * 16) (hn : n < m) : (secAt xs n).length = 16 := by
  unfold secAt; simp; omega
theorem secFn_step (xs : List Int) (k : Nat) : updS (secFn xs k) k (secAt xs k) = secFn xs (k + 1) := by
  funext i
  unfold updS secFn
  by_cases e : i = k
  · subst e; simp
  · by_cases h : i < k
    · rw [if_neg e, if_pos h, if_pos (by omega)]
    · rw [if_neg e, if_neg h, if_neg (by omega)]
theorem secFn_ok {xs : List Int} {m : Nat} (h : xs.length = m * 16) (hm : m ≤ 128) : secOK m (secFn xs m) :=
  ⟨hm, fun i => by unfold secFn; split; exact secAt_len h (by assumption); rfl, fun i hi => by unfold secFn; rw [if_neg (by omega)]⟩
def stepDS (S : DS) (d : WD) : DS := { S with rc := max S.rc (d.at_.toNat + 1), rf := updS S.rf d.at_.toNat d.xs, ws := S.ws ++ [d] }
def startDS (xs : List Int) (m : Nat) : DS := ⟨m, secFn xs m, m, secFn xs m, []⟩
def devDS (xs : List Int) (m : Nat) (ws : List WD) : DS := ws.foldl stepDS (startDS xs m)
theorem devDS_ws (xs : List Int) (m : Nat) (ws : List WD) : (devDS xs m ws).ws = ws ∧ (devDS xs m ws).hc = m ∧ (devDS xs m ws).hf = secFn xs m := by
  have h : ∀ (ws : List WD) (S : DS), (ws.foldl stepDS S).ws = S.ws ++ ws ∧ (ws.foldl stepDS S).hc = S.hc ∧ (ws.foldl stepDS S).hf = S.hf := by
    intro ws
    induction ws with
    | nil => intro S; simp
    | cons d r ih => intro S; obtain ⟨h1, h2, h3⟩ := ih (stepDS S d); exact ⟨by rw [List.foldl_cons, h1]; simp [stepDS], h2, h3⟩
  obtain ⟨h1, h2, h3⟩ := h ws (startDS xs m)
  exact ⟨by rw [devDS, h1]; rfl, h2, h3⟩
theorem devDS_snoc (xs : List Int) (m : Nat) (ws : List WD) (k : Nat) (hk : k < ws.length) : devDS xs m (ws.take (k + 1)) = stepDS (devDS xs m (ws.take k)) ws[k] := by
  unfold devDS
  rw [List.take_succ_eq_append_getElem hk, List.foldl_append]; rfl
theorem okW_form {d : WD} (h : okW d = true) : ∃ (n : Nat) (s : List Int), d = ⟨(n : Int), s⟩ ∧ n < 128 ∧ s.length = 16 := by
  unfold okW at h
  have h := of_decide_eq_true h
  obtain ⟨a, s⟩ := d
  simp only at h
  exact ⟨a.toNat, s, by congr 1; omega, by omega, h.2.2⟩
/-- While the sectors that are held are laid. -/
structure Laying (w wr : World) (ah : Option Addr) (nh ch : Nat) (aw : Option Addr) (nw cw : Nat) (xs : List Int) (k : Nat) : Prop where
  bel : Below w.heap.size w wr
  size : w.heap.size + 1 + 1 < wr.heap.size
  p0 : wr.cell? ⟨w.heap.size, 0, none⟩ = some (.slice ah nh ch)
  p1 : wr.cell? ⟨w.heap.size, 1, none⟩ = some (.slice aw nw cw)
  c0 : wr.cell? ⟨w.heap.size + 1 + 1, 0, none⟩ = some (.int .i64 (k : Int))
  c1 : wr.cell? ⟨w.heap.size + 1 + 1, 1, none⟩ = some (.map (some (w.heap.size + 1)))
  c2 : wr.cell? ⟨w.heap.size + 1 + 1, 2, none⟩ = some (.int .i64 0)
  c3 : wr.cell? ⟨w.heap.size + 1 + 1, 3, none⟩ = some (.map none)
  c4 : wr.cell? ⟨w.heap.size + 1 + 1, 4, none⟩ = some (.slice none 0 0)
  kind : ∃ cur, wr.heap[w.heap.size + 1 + 1]? = some (.cells cur 128 (0, 0))
  held : SecMap wr (w.heap.size + 1) k (secFn xs k)
theorem Laying.start {w : World} {ah : Option Addr} {nh ch : Nat} {aw : Option Addr} {nw cw : Nat} {xs : List Int} : Laying w (((w.alloc (.cells #[.slice ah nh ch, .slice aw nw cw] 32)).alloc (.map #[] 0)).alloc (.cells #[.int .i64 0, .map (some (w.heap.size + 1)), .int .i64 0, .map none, .slice none 0 0] 128)) ah nh ch aw nw cw xs 0 := by
  have hf : secFn xs 0 = fun _ => nou := by funext i; simp [secFn]
  refine ⟨(((Below.refl _ _).alloc (Nat.le_refl _) _).alloc (by simp) _).alloc (by simp; omega) _, by simp, (cell_old (by simp; omega)).trans ((cell_old (by simp)).trans ((cell_new rfl).trans rfl)), (cell_old (by simp; omega)).trans ((cell_old (by simp)).trans ((cell_new rfl).trans rfl)),
    (cell_new (by simp)).trans rfl, (cell_new (by simp)).trans rfl, (cell_new (by simp)).trans rfl, (cell_new (by simp)).trans rfl, (cell_new (by simp)).trans rfl, ⟨_, by rw [show w.heap.size + 1 + 1 = ((w.alloc (.cells #[.slice ah nh ch, .slice aw nw cw] 32)).alloc (.map #[] 0)).heap.size by simp]; exact heap_alloc_last _ _⟩, ?_⟩
  rw [hf]
  have h1 := secMap_made (w.alloc (.cells #[.slice ah nh ch, .slice aw nw cw] 32))
  have h2 := h1.below ((Below.refl ((w.alloc (.cells #[.slice ah nh ch, .slice aw nw cw] 32)).alloc (.map #[] 0)).heap.size _).alloc (Nat.le_refl _) (.cells #[.int .i64 0, .map (some (w.heap.size + 1)), .int .i64 0, .map none, .slice none 0 0] 128)) h1.lt
  simpa using h2
theorem Laying.free {w wr : World} {ah : Option Addr} {nh ch : Nat} {aw : Option Addr} {nw cw : Nat} {xs : List Int} {k : Nat} (h : Laying w wr ah nh ch aw nw cw xs k) (j : Nat) : wr.frozen? ⟨w.heap.size + 1 + 1, j, none⟩ = false := by
  obtain ⟨cur, hk⟩ := h.kind
  simp [World.frozen?, hk]
theorem Laying.put {w wr w3 : World} {ah : Option Addr} {nh ch : Nat} {aw : Option Addr} {nw cw : Nat} {xs : List Int} {k : Nat} (h : Laying w wr ah nh ch aw nw cw xs k) (hm : SecMap w3 (w.heap.size + 1) (k + 1) (updS (secFn xs k) k (secAt xs k)))
    (hc : w3.cell? ⟨w.heap.size + 1 + 1, 0, none⟩ = some (.int .i64 ((max k (k + 1) : Nat) : Int))) (hp : Put2 (w.heap.size + 1 + 1) 0 (w.heap.size + 1) wr w3) : Laying w w3 ah nh ch aw nw cw xs (k + 1) := by
  obtain ⟨cur, hk⟩ := h.kind
  have hs := h.size
  have hb := hp.block w.heap.size (by omega) (by omega) (by omega)
  rw [secFn_step] at hm
  rw [show max k (k + 1) = k + 1 by omega] at hc
  exact ⟨h.bel.trans ⟨hp.os, hp.tape, hp.output, hp.size, fun i hi => hp.block i (by omega) (by omega) (by omega)⟩, Nat.lt_of_lt_of_le h.size hp.size, (cell_of hb).trans h.p0, (cell_of hb).trans h.p1, hc, (hp.cell 1 (by decide)).trans h.c1, (hp.cell 2 (by decide)).trans h.c2, (hp.cell 3 (by decide)).trans h.c3, (hp.cell 4 (by decide)).trans h.c4, hp.kind _ _ _ hk, hm⟩
/-- What is held is what is read. -/
theorem Laying.cloned {w wr w4 : World} {ah : Option Addr} {nh ch : Nat} {aw : Option Addr} {nw cw : Nat} {xs : List Int} {m g : Nat} (h : Laying w wr ah nh ch aw nw cw xs m) (hx : xs.length = m * 16) (hm : m ≤ 128) (hb : Below wr.heap.size wr w4) (hg : wr.heap.size ≤ g) (hs : SecMap w4 g m (secFn xs m)) :
    DevAt ((w4.setCell ⟨w.heap.size + 1 + 1, 2, none⟩ (.int .i64 (m : Int))).setCell ⟨w.heap.size + 1 + 1, 3, none⟩ (.map (some g))) w.heap.size (w.heap.size + 1 + 1) (w.heap.size + 1) g (.slice none 0 0) m (startDS xs m) ∧
    Below w.heap.size w ((w4.setCell ⟨w.heap.size + 1 + 1, 2, none⟩ (.int .i64 (m : Int))).setCell ⟨w.heap.size + 1 + 1, 3, none⟩ (.map (some g))) := by
  have hsz := h.size
  have old : ∀ j, w4.cell? ⟨w.heap.size + 1 + 1, j, none⟩ = wr.cell? ⟨w.heap.size + 1 + 1, j, none⟩ := fun j => hb.cell (p := ⟨w.heap.size + 1 + 1, j, none⟩) hsz
  have ot : ∀ j, j ≠ 2 → j ≠ 3 → ((w4.setCell ⟨w.heap.size + 1 + 1, 2, none⟩ (.int .i64 (m : Int))).setCell ⟨w.heap.size + 1 + 1, 3, none⟩ (.map (some g))).cell? ⟨w.heap.size + 1 + 1, j, none⟩ = wr.cell? ⟨w.heap.size + 1 + 1, j, none⟩ := fun j h1 h2 => by
    rw [World.cell?_setCell_other _ _ _ _ (by intro e; injection e; omega), World.cell?_setCell_other _ _ _ _ (by intro e; injection e; omega)]; exact old j
  have bl : ∀ k, k ≠ w.heap.size + 1 + 1 → ((w4.setCell ⟨w.heap.size + 1 + 1, 2, none⟩ (.int .i64 (m : Int))).setCell ⟨w.heap.size + 1 + 1, 3, none⟩ (.map (some g))).heap[k]? = w4.heap[k]? := fun k hk => by
    rw [Below.heap_setCell _ _ _ _ hk, Below.heap_setCell _ _ _ _ hk]
  obtain ⟨cur, hk⟩ := h.kind
  obtain ⟨cur1, hk1⟩ := setCell_kind (o := 2) (v := .int .i64 (m : Int)) ((hb.block _ hsz).trans hk)
  refine ⟨⟨(ot 0 (by decide) (by decide)).trans h.c0, (ot 1 (by decide) (by decide)).trans h.c1, ?_, ?_, (ot 4 (by decide) (by decide)).trans h.c4, setCell_kind hk1, ?_, ?_, ⟨rfl, .inl ⟨rfl, rfl⟩⟩, ⟨by omega, by omega, by omega⟩, ⟨by omega, by omega, by omega⟩, fun b hb => (by cases hb), secFn_ok hx hm, secFn_ok hx hm, fun d hd => (by cases hd)⟩, ?_⟩
  · rw [World.cell?_setCell_other _ _ _ _ (by intro e; injection e; omega)]
    exact World.cell?_setCell_same _ _ _ ((old 2).trans h.c2)
  · exact World.cell?_setCell_same _ _ _ ((World.cell?_setCell_other _ _ _ _ (by intro e; injection e; omega)).trans ((old 3).trans h.c3))
  · exact (h.held.below hb (by omega)).block (bl _ (by omega))
  · exact hs.block (bl _ (by omega))
  · exact ((h.bel.trans (hb.mono (by omega))).setCell (p := ⟨w.heap.size + 1 + 1, 2, none⟩) (by simp; omega) _).setCell (p := ⟨w.heap.size + 1 + 1, 3, none⟩) (by simp; omega) _

end Go.Proofs.YtcflepnckjappaaGreat

namespace Go.Proofs.YtcflepnckjappaaGreat
open Go.RowKit

/-- A block of bytes, whole. -/
def Buf (w : World) (g : Nat) (xs : List Int) : Prop := w.heap[g]? = some (.cells (xs.map (Value.int .u8)).toArray 5 (0, 0))
theorem Buf.lt {w : World} {g : Nat} {xs : List Int} (h : Buf w g xs) : g < w.heap.size := (Array.getElem?_eq_some_iff.1 h).1
theorem Buf.cell {w : World} {g : Nat} {xs : List Int} (h : Buf w g xs) {j : Nat} (hj : j < xs.length) : w.cell? ⟨g, j, none⟩ = some (.int .u8 (xs.getD j 0)) := by
  unfold Buf at h
  simp [World.cell?, h, List.getD, hj]
theorem Buf.block {w w' : World} {g : Nat} {xs : List Int} (h : Buf w g xs) (hb : w'.heap[g]? = w.heap[g]?) : Buf w' g xs := hb.trans h
theorem buf_made {w : World} {base g n : Nat} (h : w.ownsRow base 5 1 (.slice (some ⟨g, 0, none⟩) n n) n (List.replicate n (.int .u8 0))) : Buf w g (List.replicate n 0) := by
  obtain ⟨_, h⟩ := h
  rcases h with ⟨h, _⟩ | ⟨g', cap, cur, e, _, hh, _, _, hs, ht⟩
  · cases h
  · injection e with e1 _ e3
    injection e1 with e1
    injection e1 with e1
    subst e1 e3
    unfold Buf
    rw [hh]
    congr 1
    have : cur = (cur.toList.take (n * 1)).toArray := by
      rw [List.take_of_length_le (by simp; omega)]
    rw [this, ht]; simp
theorem Buf.mine {w : World} {g B : Nat} {xs : List Int} (h : Buf w g xs) (hB : B ≤ g) (hm : xs.length ≤ maxLen) : Mine w B (.slice (some ⟨g, 0, none⟩) xs.length xs.length) xs := by
  refine ⟨_, _, rfl, Nat.le_refl _, hm, ⟨rfl, fun i hi => ⟨g, 0, rfl, by rw [Nat.zero_add]; exact h.cell hi⟩⟩, fun x hx => ?_⟩
  cases hx
  exact ⟨hB, h.lt, fun j => by unfold Buf at h; simp [World.frozen?, h]⟩
theorem u8_info : (Tryz.prog.info? 5).map (·.size) = some 1 := by kernel_rfl
/-- A row of n bytes is copied into a block of bytes. -/
theorem Buf.copy {w : World} {g o b so : Nat} {xs s : List Int} (h : Buf w g xs) (hr : Row w (some ⟨b, so, none⟩) s.length s) (hfit : o + s.length ≤ xs.length) (dl dc sl sc : Nat) (hmin : Nat.min sl dl = s.length) :
    ∃ w', (Builtin.copy_ #[22, 22] 3 #[.slice (some ⟨g, o, none⟩) dl dc, .slice (some ⟨b, so, none⟩) sl sc]).run Tryz.prog w = .ok (.int .i64 (s.length : Int)) w' ∧ Buf w' g (putB xs o s) ∧ Only g w w' := by
  have hc := run_copy_row (P := Tryz.prog) w 22 22 3 5 g o dl dc ⟨b, so, none⟩ sl sc _ 5 (s.map (Value.int .u8)) Tryz.underlying22 u8_info h (by simp [hmin]) (fun j v hv => by
      have hj : j < s.length := by simpa using (List.getElem?_eq_some_iff.1 hv).1
      obtain ⟨b', off', e, hcell⟩ := hr.2 j hj
      injection e with e
      injection e with e1 e2
      subst e1 e2
      rw [Addr.add_mid, hcell, ← hv]
      simp [List.getD, hj]) (by simpa using hfit) (all_u8 s)
  have hgo : goInt (((s.map (Value.int .u8)).length : Nat) : Int) = .int .i64 (s.length : Int) := by simp [goInt]
  rw [hgo] at hc
  refine ⟨_, hc, ?_, ?_⟩
  · unfold Buf
    have e : ((xs.map (Value.int .u8)).toArray.toList.take o ++ s.map (Value.int .u8) ++ (xs.map (Value.int .u8)).toArray.toList.drop (o + (s.map (Value.int .u8)).length)).toArray = ((putB xs o s).map (Value.int .u8)).toArray := by
      unfold putB
      simp
    rw [← e]
    exact setRow_heap _ _ _ _ _ _ h
  · refine ⟨rfl, rfl, rfl, by simp [World.setRow], fun k hk => ?_, fun a => ?_⟩
    · simp [World.setRow, Array.getElem?_modify, Ne.symm hk]
    · unfold Buf at h
      by_cases e : a.block = g
      · have h2 := setRow_heap w g _ ((((xs.map (Value.int .u8)).toArray.toList.take o ++ s.map (Value.int .u8) ++ (xs.map (Value.int .u8)).toArray.toList.drop (o + (s.map (Value.int .u8)).length)).toArray)) 5 (0, 0) h
        simp only [World.frozen?, e, h, h2]
      · have h2 : ∀ c', (w.setRow g c').heap[a.block]? = w.heap[a.block]? := fun c' => by simp [World.setRow, Array.getElem?_modify, Ne.symm e]
        simp only [World.frozen?, h2]
end Go.Proofs.YtcflepnckjappaaGreat

namespace Go.Proofs.YtcflepnckjappaaGreat
open Go.RowKit

theorem zero_cells (k : Nat) : (Builtin.zeroCells #[Value.int .u8 0] k).toList = (List.replicate k (0 : Int)).map (Value.int .u8) := by
  apply List.ext_getElem?
  intro j
  by_cases h : j < k
  · simp [Builtin.zeroCells, h, Nat.mod_one]
  · rw [List.getElem?_eq_none (by simp [Builtin.zeroCells]; omega), List.getElem?_eq_none (by simp; omega)]
theorem run_append_zeros (w : World) (base g cap k : Nat) (xs : List Int) (ty : TypeId) (h : Owns w base (.slice (some ⟨g, 0, none⟩) xs.length cap) xs) (hk : 0 < k) (hkb : k ≤ 100000) (hx : xs.length ≤ 100000000) (hbase : base ≤ w.heap.size) :
    ∃ g' cap' w', (Builtin.append_ #[22, 3] ty #[.slice (some ⟨g, 0, none⟩) xs.length cap, .int .i64 (k : Int)]).run Tryz.prog w = .ok (.slice (some ⟨g', 0, none⟩) (xs.length + k) cap') w' ∧
      Owns w' base (.slice (some ⟨g', 0, none⟩) (xs.length + k) cap') (xs ++ List.replicate k 0) ∧ w.grownBy w' (some g) := by
  obtain ⟨i0, hi, hz0, hz1, hz2⟩ := info_parts Tryz.infoU8
  have ht := Tryz.underlying22
  have htn := Tryz.underlying3
  have hown := h
  have hlen : (xs ++ List.replicate k (0 : Int)).length = xs.length + k := by simp
  rcases h.2 with ⟨e, _⟩ | ⟨g', cap', cur, e, hb, hh, h1, h2, hs, htk⟩
  · cases e
  injection e with e1 _ e3
  injection e1 with e1
  injection e1 with e1
  subst e1 e3
  have hcur : cur.toList.take xs.length = xs.map (Value.int .u8) := by simpa using htk
  have hw : IntKind.i64.wrap (k : Int) = k := by rw [IntKind.wrap_i64]; omega
  have hneg : ¬ ((k : Int) < 0) := by omega
  have h48i : ¬ (281474976710656 < (k : Int)) := by omega
  have hk0 : k ≠ 0 := by omega
  by_cases hroom : xs.length + k ≤ cap
  · have hst := run_storeCells_at Tryz.prog g xs.length 5 ((List.replicate k (0 : Int)).map (Value.int .u8)) 0 cur w hh (by simp; omega) (all_u8 _)
    simp only [Nat.add_zero] at hst
    have hzc := zero_cells k
    have hr : (Builtin.append_ #[22, 3] ty #[.slice (some ⟨g, 0, none⟩) xs.length cap, .int .i64 (k : Int)]).run Tryz.prog w = .ok (.slice (some ⟨g, 0, none⟩) (xs.length + k) cap) (w.setRow g (cur.toList.take xs.length ++ (List.replicate k (0 : Int)).map (Value.int .u8) ++ cur.toList.drop (xs.length + ((List.replicate k (0 : Int)).map (Value.int .u8)).length)).toArray) := by
      rw [← hzc] at hst ⊢
      simp [Builtin.append_, run_underlying ht, run_underlying htn, sizeOf, typeInfo, zeroValue, hi, hz0, hz1, hz2, asInt, asIntOf, hw, hroom, hneg, hk0, h48i, Addr.add_lit, Value.cells, hst]
    refine ⟨g, cap, _, hr, ⟨by simp, .inr ⟨g, cap, _, by rw [hlen], hb, setRow_heap w g cur _ _ _ hh, by omega, h2, ?_, ?_⟩⟩, ⟨rfl, rfl, rfl, by simp, fun j _ hj => setRow_other w g j _ (fun e => hj (by rw [e]))⟩⟩
    · simp; omega
    · rw [hcur, hlen, List.map_append]
      simp only [Nat.mul_one]
      exact List.take_left' (by simp)
  · have hold := run_firstCells_some (P := Tryz.prog) w.drew 1 xs.length ⟨g, 0, none⟩ xs.length cap (xs.map (Value.int .u8)) (by simp) (fun j u hj => by
      have hj' : j < xs.length := by simpa using (List.getElem?_eq_some_iff.1 hj).1
      have := hown.cellAt j (by simpa using hj')
      rw [Addr.add_mid, Nat.zero_add]
      exact this.trans (by rw [hj]))
    have hg := Lib.run_append_grow_zeros (P := Tryz.prog) w 22 3 ty 5 i0 (.int .u8 0) .i64 .i64 ht htn hi hz0 (some ⟨g, 0, none⟩) xs.length cap (xs.map (Value.int .u8)) (by rw [hz1]; exact hold) k hk (by omega) (by omega) (by omega) (by rw [hz2]; omega) (by rw [hz2]; have := growslice_fits (old := cap) (need := xs.length + k) (bytes := 1) (by omega) (by omega); omega)
    have hge := grownCap_ge w (xs.length + k) cap 5
    have hcm : grownCap w (xs.length + k) cap 5 ≤ maxLen := grownCap_le_maxLen w (xs.length + k) cap 5 (by unfold maxLen; omega)
    refine ⟨w.heap.size, _, _, hg, ⟨by simp, .inr ⟨w.heap.size, _, _, by rw [hlen], hbase, heap_alloc_new w.drew _, by omega, hcm, ?_, ?_⟩⟩, ⟨rfl, rfl, rfl, by simp, fun j hj _ => Below.heap_alloc w.drew _ j hj⟩⟩
    · simp [size_zeroCells, Value.cells]; omega
    · simp only [Array.toList_append, List.append_assoc, Value.cells, zero_cells, hlen, Nat.mul_one]
      rw [← List.append_assoc, ← List.map_append]
      exact List.take_left' (by simp)
theorem wpList_append_zeros (w : World) {ops : Array Oper} {rest : List Oper} {o : Oper} {a : Act} {Q : Exit → Act → World → Prop} (hg : o.guard = none) (s x : Operand) (hop : o.op = Op.call { callee := Callee.builtin Builtin.append, args := #[s, x], argTypes := #[22, 3] })
    (base g cap k : Nat) (xs : List Int) (hs : a.eval s = .slice (some ⟨g, 0, none⟩) xs.length cap) (hx : a.eval x = .int .i64 (k : Int)) (h : Owns w base (.slice (some ⟨g, 0, none⟩) xs.length cap) xs) (hk : 0 < k) (hkb : k ≤ 100000) (hxb : xs.length ≤ 100000000) (hbase : base ≤ w.heap.size)
    (hK : ∀ g' cap' w', Owns w' base (.slice (some ⟨g', 0, none⟩) (xs.length + k) cap') (xs ++ List.replicate k 0) → w.grownBy w' (some g) → wpList Tryz.prog ops Q rest (a.put o.dst (.slice (some ⟨g', 0, none⟩) (xs.length + k) cap')) w') : wpList Tryz.prog ops Q (o :: rest) a w := by
  refine wpList_plain hg fun K' hK' => ?_
  obtain ⟨g', cap', w', hrun, r1, r2⟩ := run_append_zeros w base g cap k xs o.type h hk hkb hxb hbase
  unfold Oper.wp execOp
  simp only [hop, resolve, invoke, builtin, Sem.run_bind, Sem.run_pure, Result.andThen_ok, List.map_toArray, List.map_cons, List.map_nil, hs, hx, hrun]
  exact hK' _ _ (hK g' cap' w' r1 r2)
end Go.Proofs.YtcflepnckjappaaGreat

namespace Go.Proofs.YtcflepnckjappaaGreat
open Go.RowKit

/-- A copy whose run is known, as one step of a region that draws. -/
theorem step_copy_eq {P : Program} {ops : Array Oper} {o : Oper} {a : Act} {w : World} {K : Act → World → Prop} {Q : Exit → Act → World → Prop} {E : Prop}
    (hg : o.guard = none) (s x : Operand) (t : TypeId) (hop : o.op = Op.call { callee := Callee.builtin Builtin.copy, args := #[s, x], argTypes := #[t, t] })
    (vs vx v' : Value) (w' : World) (hs : a.eval s = vs) (hx : a.eval x = vx) (hrun : (Builtin.copy_ #[t, t] o.type #[vs, vx]).run P w = .ok v' w') (hK : K (a.put o.dst v') w') :
    if Region.wanted o (yielded ops a.tmps) = true then Oper.wp P o a w K Q else E := by
  have hw : Region.wanted o (yielded ops a.tmps) = true := by simp [Region.wanted, hg]
  rw [if_pos hw]
  unfold Oper.wp
  simp [execOp, hop, resolve, invoke, builtin, hs, hx, hrun, Result.andThen]
  exact hK
/-- The cells of a row of bytes, as a law of the library asks them. -/
theorem row_cells {w : World} {b off : Nat} {xs : List Int} (h : Row w (some ⟨b, off, none⟩) xs.length xs) : ∀ j u, (xs.map (Value.int .u8))[j]? = some u → w.cell? ((⟨b, off, none⟩ : Addr).add j) = some u := by
  intro j u hu
  have hj : j < xs.length := by simpa using (List.getElem?_eq_some_iff.1 hu).1
  obtain ⟨b', off', e, hc⟩ := h.2 j hj
  injection e with e
  injection e with e1 e2
  subst e1 e2
  rw [Addr.add_mid, hc, ← hu]
  simp [List.getD, hj]
/-- A row of the call's own, with an address. -/
theorem owns_formF {w : World} {B : Nat} {v : Value} {xs : List Int} (h : Owns w B v xs) (hv : v ≠ .slice none 0 0) : ∃ g cap, v = .slice (some ⟨g, 0, none⟩) xs.length cap ∧ B ≤ g ∧ g < w.heap.size ∧ xs.length ≤ cap ∧ cap ≤ maxLen := by
  rcases h.2 with ⟨e, _⟩ | ⟨g, cap, cur, e, hb, hh, h1, h2, _⟩
  · exact absurd e hv
  · exact ⟨g, cap, e, hb, (Array.getElem?_eq_some_iff.1 hh).1, h1, h2⟩
theorem owns_cap {w : World} {B g n cap : Nat} {xs : List Int} (h : Owns w B (.slice (some ⟨g, 0, none⟩) n cap) xs) : n ≤ cap := by
  rcases h.2 with ⟨e, _⟩ | ⟨g', cap', cur, e, _, _, h1, _⟩
  · cases e
  · injection e with _ e2 e3
    rw [e2, e3]; exact h1
/-- Bytes are copied into a row of the call's own. -/
theorem owns_copy {w : World} {B g cap o b so : Nat} {xs s : List Int} (h : Owns w B (.slice (some ⟨g, 0, none⟩) xs.length cap) xs) (hr : Row w (some ⟨b, so, none⟩) s.length s) (hfit : o + s.length ≤ xs.length) (dl dc sl sc : Nat) (hmin : Nat.min sl dl = s.length) :
    ∃ w', (Builtin.copy_ #[22, 22] 3 #[.slice (some ⟨g, o, none⟩) dl dc, .slice (some ⟨b, so, none⟩) sl sc]).run Tryz.prog w = .ok (.int .i64 (s.length : Int)) w' ∧ Owns w' B (.slice (some ⟨g, 0, none⟩) xs.length cap) (putB xs o s) ∧ Only g w w' := by
  have hl := putB_len xs o s hfit
  rcases h.2 with ⟨e, _⟩ | ⟨g', cap', cur, e, hb, hh, h1, h2, hs, ht⟩
  · cases e
  injection e with e1 _ e3
  injection e1 with e1
  injection e1 with e1
  subst e1 e3
  have hsz : xs.length ≤ cur.size := by omega
  have hc := run_copy_row (P := Tryz.prog) w 22 22 3 5 g o dl dc ⟨b, so, none⟩ sl sc cur 5 (s.map (Value.int .u8)) Tryz.underlying22 u8_info hh (by simp [hmin]) (row_cells hr) (by simp; omega) (all_u8 s)
  have hgo : goInt (((s.map (Value.int .u8)).length : Nat) : Int) = .int .i64 (s.length : Int) := by simp [goInt]
  rw [hgo] at hc
  have hcur : cur.toList.take xs.length = xs.map (Value.int .u8) := by simpa using ht
  refine ⟨_, hc, ⟨by simp, .inr ⟨g, cap, _, by rw [hl], hb, setRow_heap _ _ _ _ _ _ hh, by omega, h2, ?_, ?_⟩⟩, ?_⟩
  · simp; omega
  · rw [hl]
    apply List.ext_getElem?
    intro j
    have e1 : ∀ i, i < xs.length → cur.toList[i]? = (xs.map (Value.int .u8))[i]? := fun i hi => by rw [← hcur, List.getElem?_take, if_pos hi]
    simp only [Nat.mul_one, List.getElem?_take]
    by_cases hj : j < xs.length
    · rw [if_pos hj]
      simp only [List.length_map]
      unfold putB
      simp only [List.map_append, List.map_take, List.map_drop]
      by_cases ho : j < o
      · rw [List.append_assoc, List.getElem?_append_left (by simp; omega), List.append_assoc, List.getElem?_append_left (by simp; omega), List.getElem?_take, List.getElem?_take, if_pos ho, if_pos ho]
        exact e1 j hj
      · by_cases ho2 : j < o + s.length
        · rw [List.getElem?_append_left (by simp; omega), List.getElem?_append_right (by simp; omega), List.getElem?_append_left (by simp; omega), List.getElem?_append_right (by simp; omega)]
          have l1 : (cur.toList.take o).length = o := by simp; omega
          have l2 : ((xs.map (Value.int .u8)).take o).length = o := by simp; omega
          rw [l1, l2]
        · rw [List.getElem?_append_right (by simp; omega), List.getElem?_append_right (by simp; omega), List.getElem?_drop, List.getElem?_drop]
          simp only [List.length_append, List.length_take, List.length_map, Array.length_toList]
          rw [show o + s.length + (j - (min o cur.size + s.length)) = j by omega, show o + s.length + (j - (min o xs.length + s.length)) = j by omega]
          exact e1 j hj
    · rw [if_neg hj, List.getElem?_eq_none (by simp [hl]; omega)]
  · refine ⟨rfl, rfl, rfl, by simp [World.setRow], fun k hk => ?_, fun a => ?_⟩
    · simp [World.setRow, Array.getElem?_modify, Ne.symm hk]
    · by_cases e : a.block = g
      · have h2 := setRow_heap w g _ ((cur.toList.take o ++ s.map (Value.int .u8) ++ cur.toList.drop (o + (s.map (Value.int .u8)).length)).toArray) 5 (0, 0) hh
        simp only [World.frozen?, e, hh, h2]
      · have h2 : ∀ c', (w.setRow g c').heap[a.block]? = w.heap[a.block]? := fun c' => by simp [World.setRow, Array.getElem?_modify, Ne.symm e]
        simp only [World.frozen?, h2]

set_option maxRecDepth 100000 in
set_option maxHeartbeats 2000000 in
theorem l02Put_any (b off n c : Nat) (xs : List Int) (at_ : Nat) (ds : List Int) (bd od cd t : Nat) (w : World) (hR : Row w (some ⟨b, off, none⟩) n xs) (hn : n ≤ 2048) (h16 : n % 16 = 0) (hat : at_ ≤ 127) (hds : ds.length = 16) (hRd : Row w (some ⟨bd, od, none⟩) 16 ds) (hcd : 16 ≤ cd) (ht : t ≤ 16) :
    Calls Tryz.prog 181 #[.slice (some ⟨b, off, none⟩) n c, wv (at_ : Int) (some ⟨bd, od, none⟩) 16 cd, .int .i64 (t : Int)] w fun e w' => ∃ g cap, e = .returned (.slice (some ⟨g, 0, none⟩) (max n ((at_ + 1) * 16)) cap) ∧ Owns w' w.heap.size (.slice (some ⟨g, 0, none⟩) (max n ((at_ + 1) * 16)) cap) (putD xs ⟨at_, ds⟩ t) ∧ Below w.heap.size w w' := by
  obtain ⟨i0, hi, hz0, hz1, hz2⟩ := info_parts Tryz.infoU8
  have hxl := hR.1
  have hb0 : ∀ o1 o2, Below w.heap.size w ((w.alloc o1).alloc o2) := fun o1 o2 => ((Below.refl _ _).alloc (Nat.le_refl _) _).alloc (by simp) _
  have hO : ∀ o1, ((w.alloc o1).alloc (.cells #[] 5)).ownsRow w.heap.size 5 1 (.slice (some ⟨w.heap.size + 1, 0, none⟩) 0 0) 0 [] := fun o1 => by
    have := World.ownsRow_lit (base := w.heap.size) (e := 5) (size := 1) (w.alloc o1) #[] 0 (by simp) (by unfold maxLen; simp) rfl
    simpa using this
  have HR := hide hR
  have HRd := hide hRd
  clear hR hRd
  go_enter Tryz.func181, Tryz.ntmps181
  go_wp2_with (at_builtin; refine wpList_append_own _ rfl _ _ 22 rfl w.heap.size 5 i0 (.int .u8 0) 1 1 Tryz.underlying22 hi hz0 hz1 hz2 rfl (by decide) _ 0 [] rfl (hO _) ⟨b, off, none⟩ n c (xs.map (Value.int .u8)) rfl (by simp [hxl]) (row_cells (by rw [hxl]; exact row_grow (unhide HR) (hb0 _ _))) (all_u8 xs) (by unfold maxLen; omega) (by omega) (by simp; omega) ?_)
  intro v1 w1 hown hgrow hnil
  have O1 : Owns w1 w.heap.size v1 xs := by
    unfold Owns
    rw [hxl]
    simpa using hown
  obtain ⟨g, cap, rfl, hg, hgl, hc1, hc2⟩ := owns_formF O1 (fun e => hnil e)
  have B1 : Below w.heap.size w w1 := (hb0 _ _).grown hgrow (by simp; omega) (fun k hk => by cases hk; simp)
  have pk : w1.heap[w.heap.size]? = some (.cells #[.int .i64 (at_ : Int), .slice (some ⟨bd, od, none⟩) 16 cd] 214 (0, 0)) := by
    rw [hgrow.block w.heap.size (by simp; omega) (by simp [Value.ownBlock]), Below.heap_alloc _ _ _ (by simp)]
    exact heap_alloc_new w _
  have hs1 : w.heap.size + 1 ≤ w1.heap.size := by have := hgrow.size; simp at this; omega
  have OO := hide O1
  clear hown hgrow hnil hb0 hO O1 hg hgl hc1 hc2
  subst hxl
  have apart : ∀ (x : World) (g cap : Nat) (ys : List Int), x.heap[w.heap.size]? = some (.cells #[.int .i64 (at_ : Int), .slice (some ⟨bd, od, none⟩) 16 cd] 214 (0, 0)) → Owns x w.heap.size (.slice (some ⟨g, 0, none⟩) ys.length cap) ys → g ≠ w.heap.size := by
    intro x g cap ys hk ho e
    rcases ho.2 with ⟨h, _⟩ | ⟨g', _, cur, e', _, hh, _⟩
    · cases h
    · injection e' with e1 _ _
      injection e1 with e1
      injection e1 with e1
      subst e1
      rw [e, hk] at hh
      injection hh with hh
      injection hh with _ hh
      exact absurd hh (by decide)
  have AP := hide apart
  clear apart
  go_wp2_with fail
  go_loopw [7] (fun o wr => ∃ (j g cap : Nat) (ys : List Int), o = .slice (some ⟨g, 0, none⟩) ys.length cap ∧ Hid (ys.length = xs.length + j * 16) ∧ Hid (ys = xs ++ List.replicate (j * 16) 0) ∧ (j = 0 ∨ xs.length + j * 16 ≤ (at_ + 1) * 16) ∧ Hid (Owns wr w.heap.size (.slice (some ⟨g, 0, none⟩) ys.length cap) ys) ∧ Hid (wr.heap[w.heap.size]? = some (.cells #[.int .i64 (at_ : Int), .slice (some ⟨bd, od, none⟩) 16 cd] 214 (0, 0))) ∧ w.heap.size + 1 ≤ wr.heap.size ∧ Below w.heap.size w wr) (fun o _ => (at_ + 1) * 16 - (match o with | .slice _ l _ => l | _ => 0))
  case atStart => exact ⟨0, g, cap, xs, rfl, by show xs.length = _; simp, by show xs = xs ++ _; simp, .inl rfl, unhide OO, pk, hs1, B1⟩
  case round =>
    clear OO B1 pk hs1
    obtain ⟨j, g, cap, ys, rfl, hyl, hy, hj, hO, hk, hs, hb⟩ := hrel
    have hyb : ys.length ≤ 4096 := by have := unhide hyl; omega
    have p0 : wr.cell? ⟨w.heap.size, 0, none⟩ = some (.int .i64 (at_ : Int)) := by simp [World.cell?, unhide hk]
    have p1 : wr.cell? ⟨w.heap.size, 1, none⟩ = some (.slice (some ⟨bd, od, none⟩) 16 cd) := by simp [World.cell?, unhide hk]
    by_cases hlt : ys.length < (at_ + 1) * 16
    · have hO2 := unhide hO
      go_wp2_with (at_builtin; refine wpList_append_zeros _ rfl _ _ rfl w.heap.size g cap 16 ys rfl rfl hO2 (by omega) (by omega) (by omega) (by omega) ?_)
      intro g2 cap2 w2 hO3 hg3
      have hne := unhide AP wr g cap ys (unhide hk) hO2
      have K2 := hide (show w2.heap[w.heap.size]? = _ from (hg3.block w.heap.size (by omega) (by simp; exact fun e => hne e.symm)).trans (unhide hk))
      have hgb := (hO2.lt g rfl).1
      have B2 := hide (hb.grown hg3 (by omega) (fun k hk' => by cases hk'; exact hgb))
      have S2 : w.heap.size + 1 ≤ w2.heap.size := Nat.le_trans hs hg3.size
      have Y2 := hide (show ys ++ List.replicate 16 0 = xs ++ List.replicate ((j + 1) * 16) 0 by rw [unhide hy, List.append_assoc, List.replicate_append_replicate]; congr 2; omega)
      have O3 := hide (show Owns w2 w.heap.size (.slice (some ⟨g2, 0, none⟩) (ys ++ List.replicate 16 0).length cap2) (ys ++ List.replicate 16 0) by simpa using hO3)
      clear hO2 hO3 hg3 hk hO hb hne
      go_wp2_with fail
      go_roundw
      case rel => exact ⟨j + 1, g2, cap2, ys ++ List.replicate 16 0, by simp, by show (ys ++ List.replicate 16 (0 : Int)).length = _; have := unhide hyl; simp; omega, unhide Y2, .inr (by have := unhide hyl; omega), unhide O3, unhide K2, S2, unhide B2⟩
      case measure => simp; omega
    · have HX := hide (show ys.length = max xs.length ((at_ + 1) * 16) by have := unhide hyl; omega)
      have hO2 := unhide hO
      have hcap := owns_cap hO2
      have hds2 : (ds.take t).length = t := by simp [hds]; omega
      have hRs : Row wr (some ⟨bd, od, none⟩) (ds.take t).length (ds.take t) := by
        have hr := row_grow (unhide HRd) hb
        refine ⟨rfl, fun i hi => ?_⟩
        obtain ⟨b', o', e, hc⟩ := hr.2 i (by omega)
        refine ⟨b', o', e, ?_⟩
        rw [hc]
        have h1 : i < t := by omega
        have h2 : i < ds.length := by omega
        simp [List.getD, h1, h2]
      obtain ⟨w2, hcp, hO4, hon⟩ := owns_copy (w := wr.drew) (o := at_ * 16) (b := bd) (so := od) hO2 hRs (by omega) (ys.length - at_ * 16) (cap - at_ * 16) t cd (by rw [hds2]; exact Nat.min_eq_left (by omega))
      rw [hds2] at hcp
      have hgl := (hO2.lt g rfl).1
      have B2 := hide (show Below w.heap.size w w2 from hb.trans (show Below w.heap.size wr w2 from have h := hon.below (B := w.heap.size) hgl; ⟨h.os, h.tape, h.output, h.size, h.block⟩))
      have O4 := hide (show Owns w2 w.heap.size (.slice (some ⟨g, 0, none⟩) (max xs.length ((at_ + 1) * 16)) cap) (putD xs ⟨at_, ds⟩ t) by
        rw [← unhide HX]
        have e : putD xs ⟨at_, ds⟩ t = putB ys (at_ * 16) (ds.take t) := by
          unfold putD growD
          rw [unhide hy]
          simp only [Int.toNat_natCast]
          congr 3
          have := unhide HX
          have := unhide hyl
          omega
        rw [e]; exact hO4)
      have hne2 : ¬ cap = at_ * 16 := by omega
      clear hO2 hRs hO4 hon hk hO hb
      have hwrap : IntKind.i64.wrap ((at_ : Int) * 16) = (at_ : Int) * 16 := by rw [IntKind.wrap_i64]; omega
      have htn : ((at_ : Int) * 16).toNat = at_ * 16 := by omega
      have hle : (at_ : Int) * 16 ≤ (ys.length : Int) := by omega
      have hge : 0 ≤ (at_ : Int) * 16 := by omega
      have htc : (t : Int) ≤ (cd : Int) := by omega
      have ht0 : 0 ≤ (t : Int) := by omega
      go_wp2_with fail
      go_region_law (refine step_copy_eq rfl (.tmp 24) (.tmp 28) 22 rfl _ _ _ w2 rfl rfl hcp ?_)
      all_goals
        clear hcp
        go_wp2_with fail
        go_ret
        refine ⟨g, cap, ?_, unhide O4, unhide B2⟩
        rw [← unhide HX]
        rfl
end Go.Proofs.YtcflepnckjappaaGreat

namespace Go.Proofs.YtcflepnckjappaaGreat
open Go.RowKit

/-- A slice that is nil, or lies somewhere. -/
def Adr (ah : Option Addr) (n c : Nat) : Prop := (ah = none ∧ n = 0 ∧ c = 0) ∨ ∃ b off, ah = some ⟨b, off, none⟩
theorem lit_app {w : World} {C q n c : Nat} {ah : Option Addr} {xs : List Int} (ty : TypeId) (hO : Owns w C (.slice (some ⟨q, 0, none⟩) 0 0) []) (hr : Row w ah n xs) (hah : Adr ah n c) (hn : n ≤ 1000000) (hC : C ≤ w.heap.size) :
    ∃ g cap w', (Builtin.append_ #[22, 22] ty #[.slice (some ⟨q, 0, none⟩) 0 0, .slice ah n c]).run Tryz.prog w = .ok (.slice (some ⟨g, 0, none⟩) n cap) w' ∧ Owns w' C (.slice (some ⟨g, 0, none⟩) n cap) xs ∧ w.grownBy w' (some q) := by
  rcases hah with ⟨rfl, rfl, rfl⟩ | ⟨b, off, rfl⟩
  · obtain rfl : xs = [] := List.eq_nil_of_length_eq_zero hr.1
    obtain ⟨i0, hi0, _, _, _⟩ := info_parts Tryz.infoU8
    exact ⟨q, 0, w, run_append_owned_none (P := Tryz.prog) (w := w) C 22 ty 5 i0 1 Tryz.underlying22 hi0 _ 0 _ hO, hO, ⟨rfl, rfl, rfl, Nat.le_refl _, fun _ _ _ => rfl⟩⟩
  · obtain ⟨g, cap, w', h1, h2, _, h4⟩ := sc_copy2 (c := c) ty hO hr hn hC
    exact ⟨g, cap, w', h1, h2, h4⟩
end Go.Proofs.YtcflepnckjappaaGreat

namespace Go.Proofs.YtcflepnckjappaaGreat
open Go.RowKit

theorem putD_len (xs : List Int) (d : WD) (t : Nat) (hd : d.xs.length = 16) (ht : t ≤ 16) : (putD xs d t).length = max xs.length ((d.at_.toNat + 1) * 16) := by
  unfold putD
  rw [putB_len _ _ _ (by rw [growD_len]; simp [hd]; omega), growD_len]
theorem readD_snoc (xs : List Int) (ws : List WD) (k : Nat) (hk : k < ws.length) : readD xs (ws.take (k + 1)) = putD (readD xs (ws.take k)) ws[k] 16 := by
  unfold readD
  rw [List.take_succ_eq_append_getElem hk, List.foldl_append]; rfl
theorem okW_shape {d : WD} (h : okW d = true) : ∃ (n : Nat) (s : List Int), d = ⟨(n : Int), s⟩ ∧ n ≤ 127 ∧ s.length = 16 := by
  unfold okW at h
  have h := of_decide_eq_true h
  obtain ⟨a, s⟩ := d
  simp only at h
  exact ⟨a.toNat, s, by congr 1; omega, by omega, h.2.2⟩
theorem readD_bounds (xs : List Int) (ws : List WD) (hx : xs.length % 16 = 0) (hx2 : xs.length ≤ 2048) (hall : ∀ d ∈ ws, okW d = true) : (readD xs ws).length % 16 = 0 ∧ (readD xs ws).length ≤ 2048 := by
  induction ws generalizing xs with
  | nil => exact ⟨hx, hx2⟩
  | cons d r ih =>
    obtain ⟨n, s, rfl, hn, hs⟩ := okW_shape (hall d (by simp))
    have hl := putD_len xs ⟨(n : Int), s⟩ 16 hs (Nat.le_refl _)
    simp only [Int.toNat_natCast] at hl
    exact ih (putD xs ⟨(n : Int), s⟩ 16) (by omega) (by omega) (fun d hd => hall d (by simp [hd]))
theorem row_of_owns {w : World} {B g cap : Nat} {xs : List Int} (h : Owns w B (.slice (some ⟨g, 0, none⟩) xs.length cap) xs) : Row w (some ⟨g, 0, none⟩) xs.length xs := by
  obtain ⟨a, c, e, _, _, h3, _⟩ := mine_of_owns h
  injection e with e1
  subst e1
  exact h3
theorem owns_mono {w : World} {B C : Nat} {v : Value} {xs : List Int} (h : Owns w B v xs) (hc : C ≤ B) : Owns w C v xs := by
  refine ⟨h.1, ?_⟩
  rcases h.2 with h | ⟨g, cap, cur, e, hb, r⟩
  · exact .inl h
  · exact .inr ⟨g, cap, cur, e, Nat.le_trans hc hb, r⟩
set_option maxRecDepth 100000 in
set_option maxHeartbeats 2000000 in
theorem l02Read_gen (ah : Option Addr) (n c : Nat) (aw : Option Addr) (nw cw : Nat) (xs : List Int) (ws : List WD) (w : World) (hR : Row w ah n xs) (hah : Adr ah n c) (hW : WRow w aw nw ws) (hn : n ≤ 2048) (h16 : n % 16 = 0) (hnw : nw ≤ 5000) (hall : ∀ d ∈ ws, okW d = true) :
    Calls Tryz.prog 92 #[fv ah n c aw nw cw] w fun e w' => ∃ g cap, e = .returned (.slice (some ⟨g, 0, none⟩) (readD xs ws).length cap) ∧ Owns w' w.heap.size (.slice (some ⟨g, 0, none⟩) (readD xs ws).length cap) (readD xs ws) ∧ Below w.heap.size w w' := by
  obtain ⟨i0, hi, hz0, hz1, hz2⟩ := info_parts Tryz.infoU8
  have hxl := hR.1
  have hb0 : ∀ o1 o2, Below w.heap.size w ((w.alloc o1).alloc o2) := fun o1 o2 => ((Below.refl _ _).alloc (Nat.le_refl _) _).alloc (by simp) _
  have hO : ∀ o1, ((w.alloc o1).alloc (.cells #[] 5)).ownsRow w.heap.size 5 1 (.slice (some ⟨w.heap.size + 1, 0, none⟩) 0 0) 0 [] := fun o1 => by
    have := World.ownsRow_lit (base := w.heap.size) (e := 5) (size := 1) (w.alloc o1) #[] 0 (by simp) (by unfold maxLen; simp) rfl
    simpa using this
  have HR := hide hR
  have HW := hide hW
  have HA := hide hall
  clear hR hW hall
  obtain ⟨g, cap, w1, hrun, O1, hgrow⟩ := lit_app 22 (show Owns _ w.heap.size _ [] from hO (.cells #[.slice ah n c, .slice aw nw cw] 32)) (row_grow (unhide HR) (hb0 _ _)) hah (by omega) (by simp; omega)
  have B1 : Below w.heap.size w w1 := (hb0 _ _).grown hgrow (by simp; omega) (fun k hk => by injection hk with hk; omega)
  have p1 : w1.cell? ⟨w.heap.size, 1, none⟩ = some (.slice aw nw cw) := by
    have e := hgrow.block w.heap.size (by simp; omega) (by simp)
    rw [World.cell?_of_block (a := ⟨w.heap.size, 1, none⟩) e]
    exact (cell_old (by simp)).trans ((cell_new rfl).trans rfl)
  have hs1 : w.heap.size + 1 ≤ w1.heap.size := by have := hgrow.size; simp at this; omega
  have OO := hide O1
  clear hgrow hb0 hO O1
  subst hxl
  go_enter Tryz.func92, Tryz.ntmps92
  go_wp2_with (at_builtin; refine sc_wpApp rfl _ _ 22 rfl _ _ _ w1 rfl rfl hrun ?_)
  go_loopw [3, 4] (fun o i wr => ∃ (k g cap : Nat) (ys : List Int), k ≤ nw ∧ i = .int .i64 k ∧ o = .slice (some ⟨g, 0, none⟩) ys.length cap ∧ Hid (ys = readD xs (ws.take k)) ∧ Hid (Owns wr w.heap.size (.slice (some ⟨g, 0, none⟩) ys.length cap) ys) ∧ wr.cell? ⟨w.heap.size, 1, none⟩ = some (.slice aw nw cw) ∧ w.heap.size + 1 ≤ wr.heap.size ∧ Below w.heap.size w wr) (fun _ i _ => nw - (intOf i).toNat)
  case atStart => exact ⟨0, g, cap, xs, Nat.zero_le _, rfl, rfl, by show xs = _; simp [readD], unhide OO, p1, hs1, B1⟩
  case round =>
    clear OO B1 p1 hs1
    obtain ⟨k, g, cap, ys, hk, rfl, rfl, hy, hO, p1, hs, hb⟩ := hrel
    have hwl := hide (unhide HW).1
    by_cases hlt : k < nw
    · have hk3 : k < ws.length := by rw [unhide hwl]; exact hlt
      obtain ⟨bw, ow, rfl, e0, ad, cd, e1, hm, rd⟩ := ((unhide HW).below hb).2 k hk3
      obtain ⟨m, s, hpd, hm127, hs16⟩ := okW_shape (unhide HA ws[k] (List.getElem_mem hk3))
      have hstep := readD_snoc xs ws k hk3
      rw [hpd] at e0 e1 rd hstep hm
      simp only at e0 e1 rd hm
      rw [hs16] at e1 rd hm
      obtain ⟨bd, od, rfl, _⟩ := rd.2 0 (by omega)
      have hbd := readD_bounds xs (ws.take k) h16 hn (fun d hd => unhide HA d (List.mem_of_mem_take hd))
      rw [← unhide hy] at hbd hstep
      have hcd := hm.2
      have HP := hide (l02Put_any g 0 ys.length cap ys m s bd od cd 16 wr (row_of_owns (unhide hO)) hbd.2 hbd.1 hm127 hs16 rd hcd (Nat.le_refl _))
      have HS := hide hstep
      have hlen := putD_len ys ⟨(m : Int), s⟩ 16 hs16 (Nat.le_refl _)
      simp only [Int.toNat_natCast] at hlen
      have HL := hide hlen
      clear hstep hlen rd hpd hm hbd
      go_wp2_with fail
      refine (unhide HP).mono ?_
      rintro e w2 ⟨g2, cap2, rfl, hO2, hb2⟩
      have q1 := (hb2.cell (p := ⟨w.heap.size, 1, none⟩) (show w.heap.size < wr.heap.size by omega)).trans p1
      have B2 := hide (hb.trans (hb2.mono (by omega)))
      have hs2 : w.heap.size + 1 ≤ w2.heap.size := Nat.le_trans hs hb2.size
      rw [← unhide HL] at hO2 ⊢
      have O2 := hide (owns_mono hO2 (show w.heap.size ≤ wr.heap.size by omega))
      clear hO2 hb2 hb p1 hO HP e0 e1
      generalize putD ys ⟨(m : Int), s⟩ 16 = zs at *
      go_wp2_with fail
      go_roundw
      case rel => exact ⟨k + 1, g2, cap2, zs, by omega, by go_num, rfl, (unhide HS).symm, unhide O2, q1, hs2, unhide B2⟩
      case measure => simp [intOf]; omega
    · obtain rfl : k = nw := by omega
      have e : ys = readD xs ws := by rw [unhide hy, List.take_of_length_le (by rw [unhide hwl]; exact Nat.le_refl _)]
      have HE := hide e
      clear e
      go_wp2_with fail
      go_ret
      rw [← unhide HE]
      exact ⟨g, cap, rfl, unhide hO, hb⟩
theorem l02Read_any (b off n c : Nat) (aw : Option Addr) (nw cw : Nat) (xs : List Int) (ws : List WD) (w : World) (hR : Row w (some ⟨b, off, none⟩) n xs) (hW : WRow w aw nw ws) (hn : n ≤ 2048) (h16 : n % 16 = 0) (hnw : nw ≤ 5000) (hall : ∀ d ∈ ws, okW d = true) :
    Calls Tryz.prog 92 #[fv (some ⟨b, off, none⟩) n c aw nw cw] w fun e w' => ∃ g cap, e = .returned (.slice (some ⟨g, 0, none⟩) (readD xs ws).length cap) ∧ Owns w' w.heap.size (.slice (some ⟨g, 0, none⟩) (readD xs ws).length cap) (readD xs ws) ∧ Below w.heap.size w w' :=
  l02Read_gen (some ⟨b, off, none⟩) n c aw nw cw xs ws w hR (.inr ⟨b, off, rfl⟩) hW hn h16 hnw hall
end Go.Proofs.YtcflepnckjappaaGreat

namespace Go.Proofs.YtcflepnckjappaaGreat

theorem secBytes_secFn {xs : List Int} {m : Nat} (h : xs.length = m * 16) : secBytes m (secFn xs m) = xs := by
  have h16 : ∀ i, (secFn xs m i).length = 16 := fun i => by
    unfold secFn
    split
    · exact secAt_len h (by assumption)
    · rfl
  apply List.ext_getElem?
  intro j
  by_cases hj : j < m * 16
  · rw [secBytes_get _ h16 m j hj]
    have h1 : j / 16 < m := by omega
    unfold secFn
    rw [if_pos h1]
    unfold secAt
    rw [List.getElem?_take, if_pos (by omega), List.getElem?_drop]
    congr 1
    omega
  · rw [List.getElem?_eq_none (by rw [secBytes_len _ h16]; omega), List.getElem?_eq_none (by omega)]
theorem fold_read (ws : List WD) : ∀ S : DS, secOK S.rc S.rf → (∀ d ∈ ws, okW d = true) → secBytes (ws.foldl stepDS S).rc (ws.foldl stepDS S).rf = readD (secBytes S.rc S.rf) ws := by
  induction ws with
  | nil => intro S _ _; rfl
  | cons d r ih =>
    intro S hS hall
    obtain ⟨n, s, rfl, hn, hs⟩ := okW_shape (hall d (by simp))
    obtain ⟨h1, h2, h3⟩ := hS
    have hk : secOK (stepDS S ⟨(n : Int), s⟩).rc (stepDS S ⟨(n : Int), s⟩).rf := by
      refine ⟨?_, fun i => ?_, fun i hi => ?_⟩
      · simp only [stepDS, Int.toNat_natCast]; omega
      · simp only [stepDS, updS, Int.toNat_natCast]
        split
        · exact hs
        · exact h2 i
      · simp only [stepDS, updS, Int.toNat_natCast] at hi ⊢
        rw [if_neg (by omega)]
        exact h3 i (by omega)
    rw [List.foldl_cons, ih _ hk (fun d hd => hall d (by simp [hd]))]
    have e := secBytes_put16 S.rc S.rf h2 h3 ⟨(n : Int), s⟩ hs
    show readD (secBytes (max S.rc (((n : Int)).toNat + 1)) (updS S.rf ((n : Int)).toNat s)) r = readD (putD (secBytes S.rc S.rf) ⟨(n : Int), s⟩ 16) r
    rw [← e]
theorem devDS_read {xs : List Int} {m : Nat} {ws : List WD} (h : xs.length = m * 16) (hm : m ≤ 128) (hall : ∀ d ∈ ws, okW d = true) : secBytes (devDS xs m ws).rc (devDS xs m ws).rf = readD xs ws := by
  unfold devDS
  rw [fold_read ws (startDS xs m) (secFn_ok h hm) hall]
  show readD (secBytes m (secFn xs m)) ws = _
  rw [secBytes_secFn h]
theorem okD_parts {nh : Nat} {ws : List WD} (h : okD nh ws = true) : nh % 16 = 0 ∧ nh ≤ 2048 ∧ ws.length ≤ 4096 ∧ ∀ d ∈ ws, okW d = true := by
  unfold okD at h
  rw [Bool.and_eq_true] at h
  have h1 := of_decide_eq_true h.1
  exact ⟨h1.1, h1.2.1, h1.2.2, List.all_eq_true.1 h.2⟩
end Go.Proofs.YtcflepnckjappaaGreat

namespace Go.Proofs.YtcflepnckjappaaGreat
open Go.RowKit Go.Maps

theorem scanI_len (b : List Int) : ∀ f p, p ≤ b.length → (scanI b f p).1.length ≤ b.length - p := by
  intro f
  induction f with
  | zero => intro p _; simp [scanI]
  | succ f ih =>
    intro p hp
    cases hn : nextI b p with
    | none => rw [scanI_none hn]; simp
    | some x =>
      obtain ⟨_, _, _, h4⟩ := next_some hn
      have := ih (p + 9 + x.xs.length) (by omega)
      simp only [scanI, hn]
      simp
      omega
theorem scan_len_le (b : List Int) {m : Nat} (h : b.length ≤ m) : (scanB b).1.length ≤ m := by
  have := scanI_len b (b.length + 1) 0 (Nat.zero_le _)
  unfold scanB
  omega
theorem mine_row8 {w : World} {B n cap : Nat} {a : Option Addr} {xs : List Int} (h : Mine w B (.slice a n cap) xs) : Row w a n xs ∧ n = xs.length ∧ n ≤ cap ∧ cap ≤ maxLen := by
  obtain ⟨a', c', e, h1, h2, h3, h4⟩ := h
  injection e with e1 e2 e3
  subst e1 e2 e3
  exact ⟨h3, rfl, h1, h2⟩
theorem scan_few {xs : List Int} {ws : List WD} (h : okD xs.length ws = true) : (readD xs ws).length ≤ 2048 ∧ (scanB (readD xs ws)).1.length ≤ 2048 := by
  obtain ⟨k1, k2, k3, k4⟩ := okD_parts h
  have h1 := (readD_bounds xs ws k1 k2 k4).2
  refine ⟨h1, ?_⟩
  exact scan_len_le _ h1
end Go.Proofs.YtcflepnckjappaaGreat

namespace Go.Proofs.YtcflepnckjappaaGreat
open Go.RowKit

/-- Whatever is scanned was met on the way. -/
theorem scanI_met {b : List Int} : ∀ (f : Nat) {L : List ImD} {p : Nat}, Steps b L p → Steps b (L ++ (scanI b f p).1) (scanI b f p).2
  | 0, L, p, h => by simpa [scanI] using h
  | f + 1, L, p, h => by
    unfold scanI
    split
    · simpa using h
    · rename_i x hx
      have := scanI_met f (Steps.more h hx)
      rwa [List.append_assoc] at this
theorem scanB_met (b : List Int) : Steps b (scanB b).1 (scanB b).2 := by
  have := scanI_met (b := b) (b.length + 1) Steps.start
  rwa [List.nil_append] at this
theorem scan_few2 {b : List Int} (h : b.length ≤ 2048) : (scanB b).1.length ≤ 227 := by
  have := (scanB_met b).le
  omega
/-- The images that make what is recovered. -/
def rvL (xs : List Int) (ws : List WD) : List ImD := reT [] (scanB (readD xs ws)).1
/-- What Recover answers. -/
def RvRes (xs : List Int) (ws : List WD) (w : World) (e : Ending) (w' : World) : Prop :=
  if okD xs.length ws = true then ∃ l f s ss, e = .returned (.tuple #[.agg (vzC (reN (rvL xs ws)) l f s), .int .i64 ((rvL xs ws).length : Int), .int .i64 0]) ∧ VzOwn w' w.heap.size l f s ss (reD (rvL xs ws)) ∧ Below w.heap.size w w'
  else e = .returned (.tuple #[.agg #[.int .i64 0, .slice none 0 0, .slice none 0 0, .slice none 0 0], .int .i64 0, .int .i64 1]) ∧ Below w.heap.size w w'
end Go.Proofs.YtcflepnckjappaaGreat

namespace Go.Proofs.YtcflepnckjappaaGreat
open Go.RowKit Go.Maps

theorem hm_inj {a b : ByteArray} (h : a.data.toList = b.data.toList) : a = b := by
  cases a
  cases b
  simp at h
  simp [h]
/-- A slice in a map reads as itself. -/
def hmElem (v : Value) : Option (DataW Value × List MemPlace) := some (.held v, [])
/-- Block m is a map of at most N entries that has the slices f. -/
def HMap (w : World) (m N : Nat) (f : ByteArray → Value) : Prop :=
  ∃ D : DataW Value, w.ownsMap Tryz.prog 9 hmElem m N D ∧ (∀ k : ByteArray, k.size ≤ maxLen → D.atKey (.string k.data.toList) (.held (.slice none 0 0)) = .held (f k)) ∧ ∀ k : ByteArray, k.size ≤ maxLen → (has D (.string k.data.toList) = true ↔ f k ≠ .slice none 0 0)
theorem HMap.lt {w : World} {m N : Nat} {f : ByteArray → Value} (h : HMap w m N f) : m < w.heap.size := by obtain ⟨D, h, _⟩ := h; exact h.lt
theorem HMap.block {w w' : World} {m N : Nat} {f : ByteArray → Value} (h : HMap w m N f) (hb : w'.heap[m]? = w.heap[m]?) : HMap w' m N f := by
  obtain ⟨D, ⟨es, clock, h1, h2⟩, h3⟩ := h
  exact ⟨D, ⟨es, clock, hb.trans h1, h2⟩, h3⟩
theorem hmap_made (w : World) : HMap (w.alloc (.map #[] 0)) w.heap.size 0 (fun _ => .slice none 0 0) :=
  ⟨.map [], World.ownsMap_made w _ _ _, fun _ _ => rfl, fun k _ => by simp [has_eq]⟩
theorem hm_zero (w : World) : (zeroValue 25).run Tryz.prog w = .ok (.slice none 0 0) w := by kernel_rfl
theorem HMap.lookup {w : World} {m N : Nat} {f : ByteArray → Value} (h : HMap w m N f) {k : ByteArray} (hk : k.size ≤ maxLen) : (Instr.lookup 134 (.map (some m)) (.string k) false).run Tryz.prog w = .ok (f k) w := by
  obtain ⟨D, h1, h2, _⟩ := h
  obtain ⟨v, ps, hrun, hv⟩ := h1.lookup (string_keyed Tryz.underlying9) Tryz.underlying134 (hm_zero w) (zd := .held (.slice none 0 0)) (zp := []) rfl (WideMaps.keyOf_string_mk (P := Tryz.prog) Tryz.underlying9 hk)
  rw [h2 k hk] at hv
  simp [hmElem] at hv
  rw [hrun, hv.1]
theorem HMap.update {w : World} {m N : Nat} {f : ByteArray → Value} (h : HMap w m N f) {k : ByteArray} (hk : k.size ≤ maxLen) (hN : N < maxLen) (v : Value) (hv : v ≠ .slice none 0 0) :
    ∃ w', (Instr.mapUpdate 134 (.map (some m)) (.string k) v).run Tryz.prog w = .ok () w' ∧ HMap w' m (N + 1) (fun x => if x = k then v else f x) ∧ w.grownBy w' (some m) := by
  obtain ⟨D, h1, h2, h3⟩ := h
  obtain ⟨w', hrun, ho, hg⟩ := h1.update (string_keyed Tryz.underlying9) Tryz.underlying134 hN (WideMaps.keyOf_string_mk (P := Tryz.prog) Tryz.underlying9 hk) (val := v) (d := .held v) (ps := []) rfl
  refine ⟨w', hrun, ⟨_, ho, fun j hj => ?_, fun j hj => ?_⟩, hg⟩
  · show _ = DataW.held (if j = k then v else f j)
    by_cases e : j = k
    · subst e
      rw [if_pos rfl, atKey_put_same h1.isMap (show WideAt.IsKeyLit (.string j.data.toList) from trivial)]
    · rw [if_neg e, atKey_put_other (by intro h; injection h with h; exact e (hm_inj h)), h2 j hj]
  · show _ ↔ (if j = k then v else f j) ≠ _
    by_cases e : j = k
    · subst e
      rw [if_pos rfl, has_put_same h1.isMap (show WideAt.IsKeyLit (.string j.data.toList) from trivial)]
      exact ⟨fun _ => hv, fun _ => rfl⟩
    · rw [if_neg e, has_put_other (by intro h; injection h with h; exact e (hm_inj h)), h3 j hj]
/-- A history: a map whose slices the call owns from block B on, no two in one row, none in the map's own block. -/
structure HisAt (w : World) (m N B : Nat) (f : ByteArray → Value) (ds : List VerD) : Prop where
  map : HMap w m N f
  own : ∀ k, VOwns w B (f k) (grp ds k)
  far : ∀ k j, k ≠ j → ∀ g, (f k).ownBlock = some g → (f j).ownBlock ≠ some g
  mb : m < B
  no : ∀ k, grp ds k = [] → f k = .slice none 0 0
theorem HisAt.below {w w' : World} {m N B : Nat} {f : ByteArray → Value} {ds : List VerD} (h : HisAt w m N B f ds) (hb : Below w.heap.size w w') : HisAt w' m N B f ds :=
  ⟨h.map.block (hb.block m h.map.lt), fun k => vowns_below (h.own k) hb, h.far, h.mb, h.no⟩
/-- One version appended to a row of the call's own; where the row then lies. -/
theorem hm_app {w : World} {B : Nat} {v : Value} {ds : List VerD} {d : VerD} (ho : VOwns w B v ds) (hz : ds.length ≤ 1000000) (hB : B ≤ w.heap.size) :
    ∃ v' w', (Builtin.append_ #[25, 25] 25 #[v, .slice (some ⟨w.heap.size, 0, none⟩) 1 1]).run Tryz.prog (w.alloc (.cells #[.string d.k, .int .i64 d.t, .string d.v, .bool d.g] 51)) = .ok v' w' ∧ VOwns w' B v' (ds ++ [d]) ∧ (w.alloc (.cells #[.string d.k, .int .i64 d.t, .string d.v, .bool d.g] 51)).grownBy w' v.ownBlock ∧ (v'.ownBlock = v.ownBlock ∨ v'.ownBlock = some (w.heap.size + 1)) := by
  obtain ⟨i0, hi0, hz0, hz1, hz2⟩ := info_parts Tryz.infoVersion
  have hcells : ∀ j u, (vcs [d])[j]? = some u → (w.alloc (.cells #[.string d.k, .int .i64 d.t, .string d.v, .bool d.g] 51)).cell? ((⟨w.heap.size, 0, none⟩ : Addr).add j) = some u := fun j u hu => by
    have hj : j < 4 := by simpa [vcs] using (List.getElem?_eq_some_iff.1 hu).1
    have e2 : (⟨w.heap.size, 0, none⟩ : Addr).add j = ⟨w.heap.size, j, none⟩ := by unfold Addr.add; split <;> simp_all
    rw [e2]
    refine rb_cell_new rfl ?_
    match j, hj with
    | 0, _ => simpa [vcs] using hu
    | 1, _ => simpa [vcs] using hu
    | 2, _ => simpa [vcs] using hu
    | 3, _ => simpa [vcs] using hu
  have hoa := World.ownsRow.alloc ho (.cells #[.string d.k, .int .i64 d.t, .string d.v, .bool d.g] 51)
  obtain ⟨v', w', hr, ho', hg, _⟩ := run_append_own (P := Tryz.prog) (w.alloc (.cells #[.string d.k, .int .i64 d.t, .string d.v, .bool d.g] 51)) B 25 25 51 i0 _ 4 48 Tryz.underlying25 hi0 hz0 hz1 hz2 rfl (by decide) v _ _ hoa ⟨w.heap.size, 0, none⟩ 1 1 (vcs [d]) (by simp [vcs]) hcells (vcs_one _) (by unfold maxLen; omega) (by omega) (by simp; omega)
  refine ⟨v', w', hr, by unfold VOwns; rw [List.length_append, vcs_append]; exact ho', hg, ?_⟩
  have hsz : (w.alloc (.cells #[.string d.k, .int .i64 d.t, .string d.v, .bool d.g] 51)).heap.size = w.heap.size + 1 := by simp
  rcases hoa.2 with ⟨rfl, h0⟩ | ⟨g', cap', cur, rfl, hbg, hgg, hnc, hcm, hcs, htake⟩
  · have h := run_append_nil (P := Tryz.prog) (w.alloc (.cells #[.string d.k, .int .i64 d.t, .string d.v, .bool d.g] 51)) 25 25 51 i0 _ Tryz.underlying25 hi0 hz0 ⟨w.heap.size, 0, none⟩ 1 1 (vcs [d]) (by rw [hz1]; simp [vcs]) hcells (by omega) (by omega) (by rw [hz2]; omega)
    rw [hr] at h
    injection h with h _
    subst h
    exact .inr (by simp [Value.ownBlock, hsz])
  · by_cases hroom : ds.length + 1 ≤ cap'
    · have h := run_append_room (P := Tryz.prog) (w.alloc (.cells #[.string d.k, .int .i64 d.t, .string d.v, .bool d.g] 51)) 25 25 51 i0 Tryz.underlying25 hi0 g' ds.length cap' cur hgg ⟨w.heap.size, 0, none⟩ 1 1 (vcs [d]) (by rw [hz1]; simp [vcs]) hcells (vcs_one _) hroom (by rw [hz1, hcs]; simp [vcs]; omega)
      rw [hr] at h
      injection h with h _
      subst h
      exact .inl rfl
    · have h := run_append_grow (P := Tryz.prog) (w.alloc (.cells #[.string d.k, .int .i64 d.t, .string d.v, .bool d.g] 51)) 25 25 51 i0 _ Tryz.underlying25 hi0 hz0 ⟨g', 0, none⟩ ds.length cap' (vcs ds) (by rw [hz1, vcs_len]) (fun j u hu => by
          have hj : j < ds.length * 4 := by rw [← vcs_len]; exact (List.getElem?_eq_some_iff.1 hu).1
          have e2 : (⟨g', 0, none⟩ : Addr).add j = ⟨g', j, none⟩ := by unfold Addr.add; split <;> simp_all
          rw [e2, hoa.cellAt j hj, hu]) ⟨w.heap.size, 0, none⟩ 1 1 (vcs [d]) (by rw [hz1]; simp [vcs]) hcells (by omega) (by omega) (by rw [hz2]; exact growslice_fits (by omega) (by omega))
      rw [hr] at h
      injection h with h _
      subst h
      exact .inr (by simp [Value.ownBlock, hsz])
end Go.Proofs.YtcflepnckjappaaGreat

namespace Go.Proofs.YtcflepnckjappaaGreat
open Go.RowKit Go.Maps

/-- A map's update, as one step of a region that draws. -/
theorem hm_stepUpd {P : Program} {ops : Array Oper} {o : Oper} {a : Act} {w : World} {K : Act → World → Prop} {Q : Exit → Act → World → Prop} {E : Prop}
    (hg : o.guard = none) (m x v : Operand) (t : TypeId) (hop : o.op = Op.mapUpdate t m x v) (vm vx vv : Value) (w' : World) (hm : a.eval m = vm) (hx : a.eval x = vx) (hv : a.eval v = vv)
    (hrun : (Instr.mapUpdate t vm vx vv).run P w = .ok () w') (hK : K (a.put o.dst undef) w') :
    if Region.wanted o (yielded ops a.tmps) = true then Oper.wp P o a w K Q else E := by
  have hw : Region.wanted o (yielded ops a.tmps) = true := by simp [Region.wanted, hg]
  rw [if_pos hw]
  unfold Oper.wp
  simp [execOp, hop, hm, hx, hv, hrun, Result.andThen]
  exact hK
/-- A look-up, and an append, as one step of a region that draws. -/
theorem hm_stepLook {P : Program} {ops : Array Oper} {o : Oper} {a : Act} {w : World} {K : Act → World → Prop} {Q : Exit → Act → World → Prop} {E : Prop}
    (hg : o.guard = none) (m x : Operand) (t : TypeId) (hop : o.op = Op.lookup t m x false) (vm vx v : Value) (hm : a.eval m = vm) (hx : a.eval x = vx)
    (hrun : (Instr.lookup t vm vx false).run P w = .ok v w) (hK : K (a.put o.dst v) w) :
    if Region.wanted o (yielded ops a.tmps) = true then Oper.wp P o a w K Q else E := by
  have hw : Region.wanted o (yielded ops a.tmps) = true := by simp [Region.wanted, hg]
  rw [if_pos hw]
  unfold Oper.wp
  simp [execOp, hop, hm, hx, hrun, Result.andThen]
  exact hK
theorem cb_stepApp2 {P : Program} {ops : Array Oper} {o : Oper} {a : Act} {w : World} {K : Act → World → Prop} {Q : Exit → Act → World → Prop} {E : Prop}
    (hg : o.guard = none) (s x : Operand) (t : TypeId) (hop : o.op = Op.call { callee := Callee.builtin Builtin.append, args := #[s, x], argTypes := #[t, t] })
    (vs vx v' : Value) (w' : World) (hs : a.eval s = vs) (hx : a.eval x = vx) (hrun : (Builtin.append_ #[t, t] o.type #[vs, vx]).run P w = .ok v' w') (hK : K (a.put o.dst v') w') :
    if Region.wanted o (yielded ops a.tmps) = true then Oper.wp P o a w K Q else E := by
  have hw : Region.wanted o (yielded ops a.tmps) = true := by simp [Region.wanted, hg]
  rw [if_pos hw]
  unfold Oper.wp
  simp [execOp, hop, resolve, invoke, builtin, hs, hx, hrun, Result.andThen]
  exact hK
/-- A version put behind those of its key. -/
theorem HisAt.step {w w1 : World} {m N B : Nat} {f : ByteArray → Value} {ds : List VerD} (h : HisAt w m N B f ds) (d : VerD) (hk : d.k.size ≤ maxLen) (hN : N < maxLen) {v' : Value} (o1 : VOwns w1 B v' (grp ds d.k ++ [d]))
    (gr1 : (w.alloc (.cells #[.string d.k, .int .i64 d.t, .string d.v, .bool d.g] 51)).grownBy w1 (f d.k).ownBlock) (loc : v'.ownBlock = (f d.k).ownBlock ∨ v'.ownBlock = some (w.heap.size + 1)) :
    ∃ w2, (Instr.mapUpdate 134 (.map (some m)) (.string d.k) v').run Tryz.prog w1 = .ok () w2 ∧ HisAt w2 m (N + 1) B (fun x => if x = d.k then v' else f x) (ds ++ [d]) ∧ Below m w w1 ∧ Below m w w2 ∧
      ∀ i, i < w.heap.size → i ≠ m → (f d.k).ownBlock ≠ some i → w1.heap[i]? = w.heap[i]? ∧ w2.heap[i]? = w.heap[i]? := by
  have hmw := h.map.lt
  have hmb := h.mb
  have hB : ∀ k g, (f k).ownBlock = some g → B ≤ g ∧ g < w.heap.size := fun k g e => (h.own k).lt g e
  have bA : Below w.heap.size w (w.alloc (.cells #[.string d.k, .int .i64 d.t, .string d.v, .bool d.g] 51)) := (Below.refl _ _).alloc (Nat.le_refl _) _
  have hA : ∀ i, i < w.heap.size → (f d.k).ownBlock ≠ some i → w1.heap[i]? = w.heap[i]? := fun i hi hne => (gr1.block i (Nat.lt_of_lt_of_le hi bA.size) (fun e => hne e.symm)).trans (bA.block i hi)
  have hM1 : HMap w1 m N f := h.map.block (hA m hmw (fun e => by have := (hB _ _ e).1; omega))
  obtain ⟨w2, hr2, hm2, gr2⟩ := hM1.update hk hN v' (fun e => by subst e; have h1 := o1.2; simp at h1)
  have hs1 : w.heap.size ≤ w1.heap.size := Nat.le_trans bA.size gr1.size
  have hA2 : ∀ i, i < w.heap.size → i ≠ m → (f d.k).ownBlock ≠ some i → w2.heap[i]? = w.heap[i]? := fun i hi hm' hne => (gr2.block i (Nat.lt_of_lt_of_le hi hs1) (fun e => hm' (by injection e))).trans (hA i hi hne)
  refine ⟨w2, hr2, ⟨hm2, fun k => ?_, fun k j hkj g hg hj => ?_, hmb, fun k hk0 => ?_⟩, ?_, ?_, fun i hi hm' hne => ⟨hA i hi hne, hA2 i hi hm' hne⟩⟩
  · show VOwns w2 B (if k = d.k then v' else f k) (grp (ds ++ [d]) k)
    by_cases e : k = d.k
    · subst e
      rw [if_pos rfl, grp_snoc_same]
      exact World.ownsRow.kept o1 gr2 (by
        cases hu : v'.ownBlock with
        | none => exact .inl rfl
        | some g => exact .inr fun e => by have h1 := (o1.lt g hu).1; injection e with e; omega)
    · rw [if_neg e, grp_snoc_other _ _ e]
      refine World.ownsRow.kept (World.ownsRow.kept (vowns_below (h.own k) bA) gr1 ?_) gr2 ?_
      · cases hu : (f k).ownBlock with
        | none => exact .inl rfl
        | some g => exact .inr fun e' => h.far k d.k e g hu e'.symm
      · cases hu : (f k).ownBlock with
        | none => exact .inl rfl
        | some g => exact .inr fun e' => by have h1 := (hB k g hu).1; injection e' with e'; omega
  · revert hg hj
    show (if k = d.k then v' else f k).ownBlock = some g → (if j = d.k then v' else f j).ownBlock = some g → False
    intro hg hj
    by_cases e : k = d.k
    · have e2 : ¬ j = d.k := fun e2 => hkj (e.trans e2.symm)
      rw [if_pos e] at hg
      rw [if_neg e2] at hj
      rcases loc with l1 | l1
      · exact h.far j d.k e2 g hj (l1.symm.trans hg)
      · have h1 := (hB j g hj).2
        rw [l1] at hg
        injection hg with hg
        omega
    · rw [if_neg e] at hg
      by_cases e2 : j = d.k
      · rw [if_pos e2] at hj
        rcases loc with l1 | l1
        · exact h.far k d.k e g hg (l1.symm.trans hj)
        · have h1 := (hB k g hg).2
          rw [l1] at hj
          injection hj with hj
          omega
      · rw [if_neg e2] at hj
        exact h.far k j hkj g hg hj
  · show (if k = d.k then v' else f k) = _
    by_cases e : k = d.k
    · subst e
      rw [grp_snoc_same] at hk0
      simp at hk0
    · rw [if_neg e]
      rw [grp_snoc_other _ _ e] at hk0
      exact h.no k hk0
  · exact ⟨gr1.os.trans bA.os, gr1.tape.trans bA.tape, gr1.output.trans bA.output, hs1, fun i hi => hA i (by omega) (fun e => by have := (hB _ _ e).1; omega)⟩
  · exact ⟨gr2.os.trans (gr1.os.trans bA.os), gr2.tape.trans (gr1.tape.trans bA.tape), gr2.output.trans (gr1.output.trans bA.output), Nat.le_trans hs1 gr2.size, fun i hi => hA2 i (by omega) (by omega) (fun e => by have := (hB _ _ e).1; omega)⟩
set_option maxRecDepth 100000 in
set_option maxHeartbeats 4000000 in
theorem historyOf_any (a : Option Addr) (n c : Nat) (ds : List VerD) (w : World) (hn : n ≤ 4096) (hr : VRow w a n ds) (hs : ∀ i (hi : i < ds.length), ds[i].k.size ≤ maxLen) :
    Calls Tryz.prog 64 #[.slice a n c] w fun e w' => ∃ f, e = .returned (.map (some w.heap.size)) ∧ HisAt w' w.heap.size n (w.heap.size + 1) f ds ∧ Below w.heap.size w w' := by
  have hmm := @run_makeMap Tryz.prog
  have L := hide hr.1
  have R := hide hr
  have HS := hide hs
  have H0 := hide (show HisAt (w.alloc (.map #[] 0)) w.heap.size 0 (w.heap.size + 1) (fun _ => .slice none 0 0) [] from
    ⟨hmap_made w, fun k => World.ownsRow_nil _ _ _ _, fun k j h g e => by simp [Value.ownBlock] at e, by omega, fun _ _ => rfl⟩)
  have B0 := hide (show Below w.heap.size w (w.alloc (.map #[] 0)) from (Below.refl _ _).alloc (Nat.le_refl _) _)
  clear hr hs
  go_enter Tryz.func64, Tryz.ntmps64
  go_wp2_with fail
  go_loopw [9] (fun i wr => ∃ (j : Nat) (f : ByteArray → Value), i = .int .i64 (j : Int) ∧ j ≤ n ∧ Hid (HisAt wr w.heap.size j (w.heap.size + 1) f (ds.take j)) ∧ Hid (Below w.heap.size w wr)) (fun i _ => n - (intOf i).toNat)
  case atStart => exact ⟨0, _, rfl, Nat.zero_le _, unhide H0, unhide B0⟩
  case round =>
    clear H0 B0
    obtain ⟨j, f, rfl, hj, hH, hB⟩ := hrel
    by_cases hlt : j < n
    · have hj2 : j < ds.length := by rw [unhide L]; exact hlt
      obtain ⟨b, off, rfl, d0, d1, d2, d3⟩ := ((unhide R).below (unhide hB)).2 j hj2
      have hks := unhide HS j hj2
      have TS := hide (rb_take_snoc ds j hj2)
      have hln : (ds.take j).length ≤ 4096 := by rw [List.length_take]; omega
      have hsr := (unhide hB).size
      have hmw : w.heap.size < wr.heap.size := (unhide hH).map.lt
      generalize ds[j] = pd at *
      obtain ⟨pk, pt, pv, pg⟩ := pd
      simp only at d0 d1 d2 d3 hks
      have B1 : Below wr.heap.size wr (wr.alloc (.cells #[.string pk, .int .i64 pt, .string pv, .bool pg] 51)) := (Below.refl _ _).alloc (Nat.le_refl _) _
      have BX := hide ((unhide hB).trans (B1.mono hsr))
      have HX := hide ((unhide hH).below B1)
      have KX := hide (heap_alloc_new wr (.cells #[.string pk, .int .i64 pt, .string pv, .bool pg] 51))
      have hsx : wr.heap.size + 1 = (wr.alloc (.cells #[.string pk, .int .i64 pt, .string pv, .bool pg] 51)).heap.size := by simp
      have FB : ∀ g, (f pk).ownBlock = some g → g < wr.heap.size := fun g e => (((unhide hH).own pk).lt g e).2
      clear hB hH B1
      go_upto_region 5 with fail
      clear d0 d1 d2 d3
      generalize wr.alloc (.cells #[.string pk, .int .i64 pt, .string pv, .bool pg] 51) = W at *
      generalize wr.heap.size = bx at *
      have SK := hide (show ∀ u, Below w.heap.size w u → u.heap[bx]? = some (.cells #[.string pk, .int .i64 pt, .string pv, .bool pg] 51 (0, 0)) → (fun u => Below w.heap.size w u ∧ u.cell? ⟨bx, 0, none⟩ = some (.string pk) ∧ u.cell? ⟨bx, 1, none⟩ = some (.int .i64 pt) ∧ u.cell? ⟨bx, 2, none⟩ = some (.string pv) ∧ u.cell? ⟨bx, 3, none⟩ = some (.bool pg)) u from fun u hb hk => ⟨hb, (heap_at hk 0).1, (heap_at hk 1).1, (heap_at hk 2).1, (heap_at hk 3).1⟩)
      have HD : HisAt W.drew w.heap.size j (w.heap.size + 1) f (ds.take j) := (unhide HX).below (Below.refl _ _).drew
      have bA : Below W.drew.heap.size W.drew (W.drew.alloc (.cells #[.string pk, .int .i64 pt, .string pv, .bool pg] 51)) := (Below.refl _ _).alloc (Nat.le_refl _) _
      have hWs : w.heap.size ≤ W.drew.heap.size := (unhide BX).size
      have BA := hide ((unhide BX).drew.trans (bA.mono hWs))
      have KA := hide ((bA.block bx (show bx < W.heap.size by omega)).trans (unhide KX))
      have LK := hide (show ∀ u, (u = W.drew ∨ u = W.drew.alloc (.cells #[.string pk, .int .i64 pt, .string pv, .bool pg] 51)) → (Instr.lookup 134 (.map (some w.heap.size)) (.string pk) false).run Tryz.prog u = .ok (f pk) u from fun u hu => by
        rcases hu with rfl | rfl
        · exact HD.map.lookup hks
        · exact (HD.below bA).map.lookup hks)
      have hgl := grp_len (ds.take j) pk
      obtain ⟨v1, w1, hr1, o1, gr1, loc1⟩ := hm_app (d := ⟨pk, pt, pv, pg⟩) (HD.own pk) (by omega) (show w.heap.size + 1 ≤ W.heap.size by omega)
      simp only at hr1 gr1
      obtain ⟨w2, hr2, HN', bb1, bb2, KN⟩ := HD.step ⟨pk, pt, pv, pg⟩ hks (by unfold maxLen; omega) o1 gr1 loc1
      have B1 := hide ((unhide BX).drew.trans bb1)
      have B2 := hide ((unhide BX).drew.trans bb2)
      have kn := KN bx (show bx < W.heap.size by omega) (by omega) (fun e => by have := FB bx e; omega)
      have K1 := hide (kn.1.trans (unhide KX))
      have K2 := hide (kn.2.trans (unhide KX))
      have HN := hide (show HisAt w2 w.heap.size (j + 1) (w.heap.size + 1) (fun x => if x = pk then v1 else f x) (ds.take (j + 1)) by rw [unhide TS]; exact HN')
      simp only at hr2
      clear HN' bb1 bb2 KN kn o1 gr1 loc1 HD bA hgl
      refine wp_region_held_drew (S := (fun u => Below w.heap.size w u ∧ u.cell? ⟨bx, 0, none⟩ = some (.string pk) ∧ u.cell? ⟨bx, 1, none⟩ = some (.int .i64 pt) ∧ u.cell? ⟨bx, 2, none⟩ = some (.string pv) ∧ u.cell? ⟨bx, 3, none⟩ = some (.bool pg))) (by kernel_rfl) (unhide SK _ (unhide BX).drew (unhide KX)) (fun hHeld => ?_)
      refine anyH_take 0 13 (v := ?v1) rfl rfl (by kernel_rfl) (by kernel_rfl) (by kernel_rfl) (fun _ _ _ h => h) (by rfl) ?h1 hHeld ?r1
      case h1 => (intro w hSw; (try dsimp only at hSw); go_simp; try (with_reducible rfl))
      simp only [Act.put, List.setIfInBounds_toArray, List.set_cons_zero, List.set_cons_succ]
      refine anyH_take 1 14 (v := ?v2) rfl rfl (by kernel_rfl) (by kernel_rfl) (by kernel_rfl) (fun _ _ _ h => h) (by rfl) ?h2 hHeld ?r2
      case h2 => (intro w hSw; (try dsimp only at hSw); go_simp; try (with_reducible rfl))
      simp only [Act.put, List.setIfInBounds_toArray, List.set_cons_zero, List.set_cons_succ]
      refine anyH_take 2 15 (v := ?v3) rfl rfl (by kernel_rfl) (by kernel_rfl) (by kernel_rfl) (fun _ _ _ h => h) (by rfl) ?h3 hHeld ?r3
      case h3 => (intro w hSw; (try dsimp only at hSw); go_simp; try (with_reducible rfl))
      simp only [Act.put, List.setIfInBounds_toArray, List.set_cons_zero, List.set_cons_succ]
      refine anyH_take 3 16 (v := ?v4) rfl rfl (by kernel_rfl) (by kernel_rfl) (by kernel_rfl) (fun _ _ _ h => h) (by rfl) ?h4 hHeld ?r4
      case h4 => (intro w hSw; (try dsimp only at hSw); go_simp; try (with_reducible rfl))
      simp only [Act.put, List.setIfInBounds_toArray, List.set_cons_zero, List.set_cons_succ]
      refine anyH_take 4 17 (v := ?v5) rfl rfl (by kernel_rfl) (by kernel_rfl) (by kernel_rfl) (fun _ _ _ h => h) (by rfl) ?h5 hHeld ?r5
      case h5 => (intro w hSw; (try dsimp only at hSw); go_simp; try (with_reducible rfl))
      simp only [Act.put, List.setIfInBounds_toArray, List.set_cons_zero, List.set_cons_succ]
      refine anyH_take 5 18 (v := ?v6) rfl rfl (by kernel_rfl) (by kernel_rfl) (by kernel_rfl) (fun _ _ _ h => h) (by rfl) ?h6 hHeld ?r6
      case h6 => (intro w hSw; (try dsimp only at hSw); go_simp; try (with_reducible rfl))
      simp only [Act.put, List.setIfInBounds_toArray, List.set_cons_zero, List.set_cons_succ]
      refine anyH_take 7 20 (v := ?v7) rfl rfl (by kernel_rfl) (by kernel_rfl) (by kernel_rfl) (fun _ _ _ h => h) (by rfl) ?h7 hHeld ?r7
      case h7 => (intro w hSw; (try dsimp only at hSw); go_simp; try (with_reducible rfl))
      simp only [Act.put, List.setIfInBounds_toArray, List.set_cons_zero, List.set_cons_succ]
      refine wpAnyH_ready (rs := [6, 8]) (by kernel_rfl) (by simp) ?_
      refine AllReadyH.cons rfl (fun K hK => ?_) (AllReadyH.cons rfl (fun K hK => ?_) AllReadyH.nil)
      · refine hm_stepLook rfl (.tmp 16) (.tmp 18) 134 rfl _ _ (f pk) (by first | rfl | (simp [Act.eval]; done) | (simp [Act.eval, Act.put]; done)) (by first | rfl | (simp [Act.eval]; done) | (simp [Act.eval, Act.put]; done)) (unhide LK _ (Or.inl rfl)) ?_
        refine hK.out _ _ (unhide SK _ (unhide BX).drew (unhide KX)) (fun hHeld => ?_)
        clear hK K
        simp only [Act.put, List.setIfInBounds_toArray]
        refine wpAnyH_ready (rs := [8]) (by kernel_rfl) (by simp) ?_
        refine AllReadyH.cons rfl (fun K hK => ?_) AllReadyH.nil
        go_simp
        refine hK.out _ _ (unhide SK _ (unhide BA) (unhide KA)) (fun hHeld => ?_)
        clear hK K
        refine wpAnyH_ready (rs := [9]) (by kernel_rfl) (by simp) ?_
        refine AllReadyH.cons rfl (fun K hK => ?_) AllReadyH.nil
        refine cb_stepApp2 rfl (.tmp 19) (.tmp 21) 25 rfl _ _ v1 w1 (by first | rfl | (simp [Act.eval]; done) | (simp [Act.eval, Act.put]; done)) (by first | rfl | (simp [Act.eval]; done) | (simp [Act.eval, Act.put]; done)) hr1 ?_
        refine hK.out _ _ (unhide SK _ (unhide B1) (unhide K1)) (fun hHeld => ?_)
        clear hK K
        simp only [Act.put, List.setIfInBounds_toArray]
        refine wpAnyH_ready (rs := [10]) (by kernel_rfl) (by simp) ?_
        refine AllReadyH.cons rfl (fun K hK => ?_) AllReadyH.nil
        refine hm_stepUpd rfl (.tmp 13) (.tmp 15) (.tmp 22) 134 rfl _ _ _ w2 (by first | rfl | (simp [Act.eval]; done) | (simp [Act.eval, Act.put]; done)) (by first | rfl | (simp [Act.eval]; done) | (simp [Act.eval, Act.put]; done)) (by first | rfl | (simp [Act.eval]; done) | (simp [Act.eval, Act.put]; done)) hr2 ?_
        refine hK.out _ _ (unhide SK _ (unhide B2) (unhide K2)) (fun hHeld => ?_)
        clear hK K
        refine wpAnyH_done (by kernel_rfl) ?_ _
        go_wp2_with fail
        go_roundw
        case rel => exact ⟨j + 1, _, by go_num, by omega, unhide HN, unhide B2⟩
        case measure => simp [intOf]; omega
      · go_simp
        refine hK.out _ _ (unhide SK _ (unhide BA) (unhide KA)) (fun hHeld => ?_)
        clear hK K
        refine wpAnyH_ready (rs := [6]) (by kernel_rfl) (by simp) ?_
        refine AllReadyH.cons rfl (fun K hK => ?_) AllReadyH.nil
        refine hm_stepLook rfl (.tmp 16) (.tmp 18) 134 rfl _ _ (f pk) (by first | rfl | (simp [Act.eval]; done) | (simp [Act.eval, Act.put]; done)) (by first | rfl | (simp [Act.eval]; done) | (simp [Act.eval, Act.put]; done)) (unhide LK _ (Or.inr rfl)) ?_
        refine hK.out _ _ (unhide SK _ (unhide BA) (unhide KA)) (fun hHeld => ?_)
        clear hK K
        simp only [Act.put]
        refine wpAnyH_ready (rs := [9]) (by kernel_rfl) (by simp) ?_
        refine AllReadyH.cons rfl (fun K hK => ?_) AllReadyH.nil
        refine cb_stepApp2 rfl (.tmp 19) (.tmp 21) 25 rfl _ _ v1 w1 (by first | rfl | (simp [Act.eval]; done) | (simp [Act.eval, Act.put]; done)) (by first | rfl | (simp [Act.eval]; done) | (simp [Act.eval, Act.put]; done)) hr1 ?_
        refine hK.out _ _ (unhide SK _ (unhide B1) (unhide K1)) (fun hHeld => ?_)
        clear hK K
        simp only [Act.put, List.setIfInBounds_toArray]
        refine wpAnyH_ready (rs := [10]) (by kernel_rfl) (by simp) ?_
        refine AllReadyH.cons rfl (fun K hK => ?_) AllReadyH.nil
        refine hm_stepUpd rfl (.tmp 13) (.tmp 15) (.tmp 22) 134 rfl _ _ _ w2 (by first | rfl | (simp [Act.eval]; done) | (simp [Act.eval, Act.put]; done)) (by first | rfl | (simp [Act.eval]; done) | (simp [Act.eval, Act.put]; done)) (by first | rfl | (simp [Act.eval]; done) | (simp [Act.eval, Act.put]; done)) hr2 ?_
        refine hK.out _ _ (unhide SK _ (unhide B2) (unhide K2)) (fun hHeld => ?_)
        clear hK K
        refine wpAnyH_done (by kernel_rfl) ?_ _
        go_wp2_with fail
        go_roundw
        case rel => exact ⟨j + 1, _, by go_num, by omega, unhide HN, unhide B2⟩
        case measure => simp [intOf]; omega
    · obtain rfl : j = n := by omega
      have Z := hide (show HisAt wr w.heap.size j (w.heap.size + 1) f ds by
        have := unhide hH
        rwa [List.take_of_length_le (by rw [unhide L]; exact Nat.le_refl _)] at this)
      go_wp2_with fail
      go_ret
      exact ⟨f, rfl, unhide Z, unhide hB⟩
end Go.Proofs.YtcflepnckjappaaGreat

namespace Go.Proofs.YtcflepnckjappaaGreat
open Go.RowKit

/-- The block does not hold versions. -/
def NoV (w : World) (i : Nat) : Prop := ∀ cur, w.heap[i]? ≠ some (.cells cur 51 (0, 0))
theorem noV_kind {w : World} {i : Nat} {cs : Array Value} {t : TypeId} (h : w.heap[i]? = some (.cells cs t (0, 0))) (ht : 51 ≠ t) : NoV w i := fun cur e => by
  rw [h] at e
  injection e with e
  injection e with _ e _
  exact ht e.symm
theorem HMap.wr {w w' : World} {m N : Nat} {f : ByteArray → Value} (h : HMap w m N f) {P : Nat → Prop} (hw : WrB P w w') (hp : ¬ P m) : HMap w' m N f := h.block (hw.block m h.lt hp)
theorem HisAt.wr {w w' : World} {m N B : Nat} {f : ByteArray → Value} {ds : List VerD} (h : HisAt w m N B f ds) {P : Nat → Prop} (hw : WrB P w w') (hm : ¬ P m) (hp : ∀ i, P i → NoV w i) : HisAt w' m N B f ds :=
  ⟨h.map.wr hw hm, fun k => rr_owns_wr (h.own k) hw (fun i hi hP => by obtain ⟨cur, hc⟩ := own_kind (h.own k) hi; exact hp i hP cur hc), h.far, h.mb, h.no⟩
theorem HMap.ne {w : World} {m N b : Nat} {f : ByteArray → Value} (h : HMap w m N f) {cs : Array Value} {t : TypeId} (hb : w.heap[b]? = some (.cells cs t (0, 0))) : m ≠ b := fun e => by
  obtain ⟨D, ⟨es, clock, h1, _⟩, _⟩ := h
  rw [e, hb] at h1
  cases h1
theorem se_far {w : World} {B b : Nat} {v : Value} {hs : List SeH} (h : SeOwn w B v hs) {cs : Array Value} {t : TypeId} (hb : w.heap[b]? = some (.cells cs t (0, 0))) (h1 : 212 ≠ t) (h2 : 51 ≠ t) : ¬ NBl v (hs.map seEl) b := by
  rintro (hi | ⟨k, a, x, hx, hi⟩)
  · exact own_box h.row hb h1 hi
  · have ho := h.dat k a x hx
    obtain ⟨e, he, hxe⟩ := sbAt_mem hx
    obtain ⟨y, _, rfl⟩ := List.mem_map.1 he
    have : x = _ := List.mem_singleton.1 hxe
    subst this
    exact own_box ho hb h2 hi
theorem grown_wr {w w' : World} {r : Option Nat} (h : w.grownBy w' r) : WrB (fun i => r = some i) w w' := ⟨h.os, h.tape, h.output, h.size, fun i hi hp => h.block i hi (fun e => hp e.symm)⟩
theorem nbl_se {w : World} {B n i : Nat} {v : Value} {hs : List SeH} (h : NOwn w B 212 3 v n (hs.map seEl)) (hi : NBl v (hs.map seEl) i) : ∃ cur T, w.heap[i]? = some (.cells cur T (0, 0)) ∧ (T = 212 ∨ T = 51) := by
  rcases hi with hi | ⟨k, a, x, hx, hi⟩
  · obtain ⟨cur, hc⟩ := own_kind h.row hi
    exact ⟨cur, _, hc, .inl rfl⟩
  · obtain ⟨cur, hc⟩ := own_kind (h.dat k a x hx) hi
    obtain ⟨e, he, hxe⟩ := sbAt_mem hx
    obtain ⟨y, _, rfl⟩ := List.mem_map.1 he
    have : x = _ := List.mem_singleton.1 hxe
    subst this
    exact ⟨cur, _, hc, .inr rfl⟩
end Go.Proofs.YtcflepnckjappaaGreat

namespace Go.Proofs.YtcflepnckjappaaGreat
open Go.RowKit

def noVs : VsD := ⟨0, [], [], []⟩
/-- A session as its cells. -/
def seR (h : SeH) : SesR := ⟨h.X.o, h.X.t, h.s0⟩
theorem vs_of_vz {w : World} {l f s : Sl} {hs : List SeH} {d : VsD} (h : VzIn w l f s hs d) : VsAt w l f s (hs.map seR) d := by
  refine ⟨h.vr, h.fr, ⟨by rw [List.length_map]; exact h.len.1, fun i hi => ?_⟩, ⟨by rw [List.length_map]; exact h.len.2, fun i h1 h2 => ?_⟩⟩
  · rw [List.length_map] at hi
    obtain ⟨b, off, e, _, c0, c1, c2⟩ := SeIn.cells h.sr hi
    refine ⟨b, off, e, ?_, ?_, ?_⟩
    · rw [List.getElem_map]; exact c0
    · rw [List.getElem_map]; exact c1
    · rw [List.getElem_map]; exact c2
  · rw [List.length_map] at h1
    obtain ⟨hd, he⟩ := h.at h1
    have hr := SeIn.row h.sr h1
    rw [List.getElem_map, ← he]
    exact ⟨rfl, rfl, hr⟩
end Go.Proofs.YtcflepnckjappaaGreat

namespace Go.Proofs.YtcflepnckjappaaGreat
open Go.RowKit

end Go.Proofs.YtcflepnckjappaaGreat

namespace Go.Proofs.YtcflepnckjappaaGreat
open Go.RowKit

end Go.Proofs.YtcflepnckjappaaGreat

namespace Go.Proofs.YtcflepnckjappaaGreat
open Go.RowKit

/-- What slices.Grow makes of nil: a row with room, and nothing in it. -/
theorem grow_owns {w : World} {B e size n : Nat} {z : Value} (hz : z.cells.size = size) (hn : n ≤ maxLen) (hB : B ≤ w.heap.size) : (w.drew.alloc (.cells (Builtin.zeroCells z.cells n ++ Builtin.zeroCells z.cells (grownCap w n 0 e - n)) e)).ownsRow B e size (.slice (some ⟨w.heap.size, 0, none⟩) 0 (grownCap w n 0 e)) 0 [] := by
  have hge := grownCap_ge w n 0 e
  have hcm := grownCap_le_maxLen w n 0 e hn
  refine ⟨by simp, .inr ⟨w.heap.size, _, _, rfl, hB, heap_alloc_new w.drew _, Nat.zero_le _, hcm, ?_, by simp⟩⟩
  rw [Array.size_append, size_zeroCells, size_zeroCells, hz, ← Nat.add_mul]
  congr 1
  omega

end Go.Proofs.YtcflepnckjappaaGreat
