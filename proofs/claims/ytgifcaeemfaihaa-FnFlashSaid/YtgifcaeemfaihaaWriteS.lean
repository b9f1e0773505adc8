/-
  The walk of spec.l02Write.
-/
import Derived.Test.YtgifcaeemfaihaaWriteC
import Derived.Deep.RegionLaw
import Derived.Deep.DeepCutAuto
import Derived.Deep.WholeRow
set_option maxRecDepth 100000
namespace Go.Proofs.Ytgifcaeemfaihaa
open Go.RowKit

set_option maxRecDepth 100000 in
set_option maxHeartbeats 4000000 in
theorem l02Write_noneg (ah : Option Addr) (n c : Nat) (aw : Option Addr) (nw cw : Nat) (at_ : Nat) (ad : Option Addr) (cd : Nat) (w : World) :
    Calls Try.prog 79 #[fv ah n c aw nw cw, .int .i64 (at_ : Int), .slice ad 0 cd] w fun e w' => e = .returned (fv ah n c aw nw cw) ∧ Below w.heap.size w w' := by
  go_enter Try.func79, Try.ntmps79
  go_wp2_with fail
  refine bodyPost_ret (v := fv ah n c aw nw cw) (by simp [results, Try.results79, go_sem]) rfl ⟨rfl, ?_⟩
  exact ((Below.refl _ _).alloc (Nat.le_refl _) _).alloc (by simp) _
theorem l02Write_none (b off n c : Nat) (aw : Option Addr) (nw cw : Nat) (at_ : Nat) (ad : Option Addr) (cd : Nat) (w : World) :
    Calls Try.prog 79 #[fv (some ⟨b, off, none⟩) n c aw nw cw, .int .i64 (at_ : Int), .slice ad 0 cd] w fun e w' => e = .returned (fv (some ⟨b, off, none⟩) n c aw nw cw) ∧ Below w.heap.size w w' :=
  l02Write_noneg (some ⟨b, off, none⟩) n c aw nw cw at_ ad cd w
theorem row_of_owns_len {w : World} {B g cap m n : Nat} {xs : List Int} (h : Owns w B (.slice (some ⟨g, 0, none⟩) n cap) xs) (hl : xs.length = m) : Row w (some ⟨g, 0, none⟩) m xs := by
  have hn : n = xs.length := by
    rcases h.2 with ⟨e, _⟩ | ⟨g', cap', cur, e, _⟩
    · cases e
    · injection e
  subst hn
  rw [← hl]
  exact row_of_owns h
/-- A device that is a local, while sectors are appended to what waits. -/
structure WOut (B : Nat) (w2 wc : World) (ob g cap : Nat) (ah : Option Addr) (n c : Nat) (cs : List Value) (ws : List WD) : Prop where
  bel : Below w2.heap.size w2 wc
  c0 : wc.cell? ⟨ob, 0, none⟩ = some (.slice ah n c)
  c1 : wc.cell? ⟨ob, 1, none⟩ = some (.slice (some ⟨g, 0, none⟩) ws.length cap)
  kind : ∃ cur, wc.heap[ob]? = some (.cells cur 50 (0, 0))
  low : w2.heap.size ≤ ob
  own : wc.ownsRow w2.heap.size 101 2 (.slice (some ⟨g, 0, none⟩) ws.length cap) ws.length cs
  cells : WCs wc B cs ws
  lowB : B ≤ w2.heap.size
theorem ownsW_kept {w w' : World} {base n : Nat} {v : Value} {cs : List Value} (h : w.ownsRow base 101 2 v n cs) (hk : ∀ k, v.ownBlock = some k → w'.heap[k]? = w.heap[k]?) : w'.ownsRow base 101 2 v n cs := by
  obtain ⟨h1, h2⟩ := h
  refine ⟨h1, ?_⟩
  rcases h2 with h2 | ⟨g, cap, cur, rfl, hg, hh, r⟩
  · exact .inl h2
  · exact .inr ⟨g, cap, cur, rfl, hg, (hk g rfl).trans hh, r⟩
theorem ownsW_kind {w : World} {base n g cap : Nat} {cs : List Value} (h : w.ownsRow base 101 2 (.slice (some ⟨g, 0, none⟩) n cap) n cs) : ∃ cur, w.heap[g]? = some (.cells cur 101 (0, 0)) := by
  rcases h.2 with ⟨e, _⟩ | ⟨g', cap', cur, e, _, hh, _⟩
  · cases e
  · injection e with e1 _ _
    injection e1 with e1
    injection e1 with e1
    subst e1
    exact ⟨cur, hh⟩
theorem WOut.new {B : Nat} {w2 w3 : World} {g cap : Nat} {ah : Option Addr} {n c : Nat} {cs : List Value} {ws : List WD} (hb : Below w2.heap.size w2 w3) (ho : w3.ownsRow w2.heap.size 101 2 (.slice (some ⟨g, 0, none⟩) ws.length cap) ws.length cs) (hc : WCs w3 B cs ws) (hB : B ≤ w2.heap.size) :
    WOut B w2 (w3.alloc (.cells #[.slice ah n c, .slice (some ⟨g, 0, none⟩) ws.length cap] 50)) w3.heap.size g cap ah n c cs ws :=
  have b : Below w3.heap.size w3 (w3.alloc (.cells #[.slice ah n c, .slice (some ⟨g, 0, none⟩) ws.length cap] 50)) := (Below.refl _ _).alloc (Nat.le_refl _) _
  ⟨hb.trans (b.mono hb.size), (cell_new rfl).trans rfl, (cell_new rfl).trans rfl, ⟨_, heap_alloc_last _ _⟩, hb.size, ho.alloc _, hc.grow b, hB⟩
/-- The row that waits is laid into the box. -/
theorem WOut.lay {B : Nat} {w2 w3 : World} {ob g cap : Nat} {ah : Option Addr} {n c : Nat} {cs : List Value} {ws : List WD} {v0 v1 : Value} (hb : Below w2.heap.size w2 w3) (hl : w2.heap.size ≤ ob) (hk : ∃ cur, w3.heap[ob]? = some (.cells cur 50 (0, 0))) (h0 : w3.cell? ⟨ob, 0, none⟩ = some v0) (h1 : w3.cell? ⟨ob, 1, none⟩ = some v1)
    (ho : w3.ownsRow w2.heap.size 101 2 (.slice (some ⟨g, 0, none⟩) ws.length cap) ws.length cs) (hc : WCs w3 B cs ws) (hB : B ≤ w2.heap.size) :
    WOut B w2 ((w3.setCell ⟨ob, 0, none⟩ (.slice ah n c)).setCell ⟨ob, 1, none⟩ (.slice (some ⟨g, 0, none⟩) ws.length cap)) ob g cap ah n c cs ws := by
  obtain ⟨cur, hk⟩ := hk
  obtain ⟨curg, hkg⟩ := ownsW_kind ho
  have hne : g ≠ ob := fun e => by
    rw [e, hk] at hkg
    injection hkg with hkg
    injection hkg with _ hkg
    exact absurd hkg (by decide)
  have bl : ∀ k, k ≠ ob → ((w3.setCell ⟨ob, 0, none⟩ (.slice ah n c)).setCell ⟨ob, 1, none⟩ (.slice (some ⟨g, 0, none⟩) ws.length cap)).heap[k]? = w3.heap[k]? := fun k hk => by rw [Below.heap_setCell _ _ _ _ hk, Below.heap_setCell _ _ _ _ hk]
  obtain ⟨cur1, hk1⟩ := setCell_kind (o := 0) (v := .slice ah n c) hk
  refine ⟨(hb.setCell (p := ⟨ob, 0, none⟩) hl _).setCell (p := ⟨ob, 1, none⟩) hl _, (World.cell?_setCell_other _ _ _ _ (by intro e; injection e; omega)).trans (World.cell?_setCell_same _ _ _ h0), World.cell?_setCell_same _ _ _ ((World.cell?_setCell_other _ _ _ _ (by intro e; injection e; omega)).trans h1), setCell_kind hk1, hl, ownsW_kept ho (fun k hk => bl k (fun e => hne ((show g = k by simpa [Value.ownBlock] using hk).trans e))), hc.but (Nat.le_trans hB hl) ⟨cur, _, _, hk, by decide⟩ (by simp [World.setCell]) (fun k _ hk => bl k hk), hB⟩
/-- One sector more waits in the box. -/
theorem WOut.more {B : Nat} {w2 wr w5 : World} {ob g cap g5 cap5 : Nat} {ah : Option Addr} {n c : Nat} {cs cs' : List Value} {ws : List WD} {d : WD} (h : WOut B w2 wr ob g cap ah n c cs ws)
    (ho : w5.ownsRow w2.heap.size 101 2 (.slice (some ⟨g5, 0, none⟩) (ws ++ [d]).length cap5) (ws ++ [d]).length cs') (hc : WCs w5 B cs' (ws ++ [d])) (hb : Below w2.heap.size wr w5) (hk : ∀ k, k < wr.heap.size → k ≠ g → w5.heap[k]? = wr.heap[k]?) :
    (w5.cell? ⟨ob, 1, none⟩ = some (.slice (some ⟨g, 0, none⟩) ws.length cap) ∧ w5.frozen? ⟨ob, 1, none⟩ = false ∧ ob < wr.heap.size) ∧ WOut B w2 (w5.setCell ⟨ob, 1, none⟩ (.slice (some ⟨g5, 0, none⟩) (ws ++ [d]).length cap5)) ob g5 cap5 ah n c cs' (ws ++ [d]) := by
  have hobl : ob < wr.heap.size := cell_lt h.c0
  obtain ⟨cur, hkd⟩ := h.kind
  obtain ⟨curg, hkg⟩ := ownsW_kind h.own
  have hne : ob ≠ g := fun e => by
    rw [e, hkg] at hkd
    injection hkd with hkd
    injection hkd with _ hkd
    exact absurd hkd (by decide)
  have e5 := hk ob hobl hne
  have hk5 := e5.trans hkd
  obtain ⟨cur5, hkg5⟩ := ownsW_kind ho
  have hne5 : g5 ≠ ob := fun e => by
    rw [e, hk5] at hkg5
    injection hkg5 with hkg5
    injection hkg5 with _ hkg5
    exact absurd hkg5 (by decide)
  have c1 : w5.cell? ⟨ob, 1, none⟩ = some (.slice (some ⟨g, 0, none⟩) ws.length cap) := (World.cell?_of_block (w := wr) (a := ⟨ob, 1, none⟩) e5).trans h.c1
  have c0 : w5.cell? ⟨ob, 0, none⟩ = some (.slice ah n c) := (World.cell?_of_block (w := wr) (a := ⟨ob, 0, none⟩) e5).trans h.c0
  refine ⟨⟨c1, by simp [World.frozen?, hk5], hobl⟩, ⟨(h.bel.trans hb).setCell (p := ⟨ob, 1, none⟩) h.low _, (World.cell?_setCell_other _ _ _ _ (by intro e; injection e; omega)).trans c0, World.cell?_setCell_same _ _ _ c1, setCell_kind hk5, h.low, ownsW_kept ho (fun k hk => Below.heap_setCell _ _ _ _ (fun e => hne5 ((show g5 = k by simpa [Value.ownBlock] using hk).trans e))), hc.but (Nat.le_trans h.lowB h.low) ⟨cur, _, _, hk5, by decide⟩ (by simp [World.setCell]) (fun k _ hk => Below.heap_setCell _ _ _ _ hk), h.lowB⟩⟩
theorem newW_snoc (b : List Int) (at_ : Nat) (d : List Int) (k : Nat) (h : k < touchN at_ d.length) : (newW b at_ d).take (k + 1) = (newW b at_ d).take k ++ [⟨((at_ / 16 + k : Nat) : Int), secW (allW b at_ d) (at_ / 16 + k)⟩] := by
  rw [List.take_succ_eq_append_getElem (by rw [newW_len]; exact h)]
  simp [newW]
/-- What is written into a box of two slices leaves a row of the call's own. -/
theorem wcs_box {w : World} {base low B g cap m ob : Nat} {cs : List Value} {ws : List WD} {cur : Array Value} {fr : Nat × Nat} (ho : w.ownsRow base 101 2 (.slice (some ⟨g, 0, none⟩) m cap) m cs) (hl : low ≤ base) (hc : WCs w B cs ws) (hB : B ≤ ob) (hk : w.heap[ob]? = some (.cells cur 50 fr)) (u v : Value) :
    ∃ cs, ((w.setCell ⟨ob, 0, none⟩ u).setCell ⟨ob, 1, none⟩ v).ownsRow low 101 2 (.slice (some ⟨g, 0, none⟩) m cap) m cs ∧ WCs ((w.setCell ⟨ob, 0, none⟩ u).setCell ⟨ob, 1, none⟩ v) B cs ws := by
  obtain ⟨curg, hkg⟩ := ownsW_kind ho
  have hne : g ≠ ob := fun e => by
    rw [e, hk] at hkg
    injection hkg with hkg
    injection hkg with _ hkg
    exact absurd hkg (by decide)
  have bl : ∀ k, k ≠ ob → ((w.setCell ⟨ob, 0, none⟩ u).setCell ⟨ob, 1, none⟩ v).heap[k]? = w.heap[k]? := fun k hk => by rw [Below.heap_setCell _ _ _ _ hk, Below.heap_setCell _ _ _ _ hk]
  have h1 := ownsW_kept ho (w' := (w.setCell ⟨ob, 0, none⟩ u).setCell ⟨ob, 1, none⟩ v) (fun k hk => bl k (fun e => hne ((show g = k by simpa [Value.ownBlock] using hk).trans e)))
  refine ⟨cs, ⟨h1.1, ?_⟩, hc.but hB ⟨cur, _, _, hk, by decide⟩ (by simp [World.setCell]) (fun k _ hk => bl k hk)⟩
  rcases h1.2 with h2 | ⟨g', cap', cur', e, hg, r⟩
  · exact .inl h2
  · exact .inr ⟨g', cap', cur', e, by omega, r⟩
set_option maxRecDepth 100000 in
set_option maxHeartbeats 4000000 in
theorem l02Write_far (ah : Option Addr) (n c : Nat) (aw : Option Addr) (nw cw : Nat) (at_ : Nat) (bd od cd : Nat) (ds : List Int) (xs : List Int) (ws : List WD) (w : World) (hR : Row w ah n xs) (hah : Adr ah n c) (hW : WRow w aw nw ws) (B0 : Nat) (hB0 : B0 ≤ w.heap.size) (hF : FarW w B0 aw ws) (hn : n ≤ 2048) (h16 : n % 16 = 0) (hnw : nw ≤ 4096) (hall : ∀ d ∈ ws, okW d = true) (hds : Row w (some ⟨bd, od, none⟩) ds.length ds) (hd0 : 0 < ds.length) (hfit : at_ + ds.length ≤ 2048) (haw : aw = none → nw = 0 ∧ cw = 0) :
    Calls Try.prog 79 #[fv ah n c aw nw cw, .int .i64 (at_ : Int), .slice (some ⟨bd, od, none⟩) ds.length cd] w fun e w' => ∃ g cw', e = .returned (fv ah n c (some ⟨g, 0, none⟩) (writeD xs ws at_ ds).length cw') ∧ WRow w' (some ⟨g, 0, none⟩) (writeD xs ws at_ ds).length (writeD xs ws at_ ds) ∧ Below w.heap.size w w' ∧ ∃ cs, w'.ownsRow w.heap.size 101 2 (.slice (some ⟨g, 0, none⟩) (writeD xs ws at_ ds).length cw') (writeD xs ws at_ ds).length cs ∧ WCs w' B0 cs (writeD xs ws at_ ds) := by
  obtain ⟨i0, hi, hz0, hz1, hz2⟩ := info_parts Try.infoU8
  have hxl := hR.1
  have hb0 : ∀ o1 o2, Below w.heap.size w ((w.alloc o1).alloc o2) := fun o1 o2 => ((Below.refl _ _).alloc (Nat.le_refl _) _).alloc (by simp) _
  have HL := hide (fun o1 o2 => l02Read_gen ah n c aw nw cw xs ws ((w.alloc o1).alloc o2) (row_grow hR (hb0 o1 o2)) hah (hW.below (hb0 o1 o2)) hn h16 (by omega) hall)
  have HB := hide (readD_bounds xs ws (by rw [hxl]; exact h16) (by rw [hxl]; exact hn) hall)
  have HR := hide hR
  have HW := hide hW
  have HD := hide hds
  have HA := hide hall
  clear hR hW hall hds
  have HAW := hide haw
  clear haw
  have HF := hide hF
  clear hF
  have q0 : ((ds.length : Int) == 0) = false := by rw [beq_eq_false_iff_ne]; omega
  go_enter Try.func79, Try.ntmps79
  go_wp2_with fail
  refine (unhide HL _ _).mono ?_
  rintro e w1 ⟨g, cap, rfl, hO, hb1⟩
  have hz : ∀ o1 o2, ((w.alloc o1).alloc o2).heap.size = w.heap.size + 1 + 1 := fun o1 o2 => by simp
  have B1 := hide ((hb0 (.cells #[.slice ah n c, .slice aw nw cw] 50) (.cells #[.slice none 0 0, .slice none 0 0] 50)).trans (hb1.mono (by rw [hz]; omega)))
  have hs1 := hb1.size
  rw [hz] at hs1 hb1 hO
  have y0 : w1.cell? ⟨w.heap.size, 0, none⟩ = some (.slice ah n c) := (hb1.cell (p := ⟨w.heap.size, 0, none⟩) (by simp; omega)).trans ((cell_old (by simp)).trans ((cell_new rfl).trans rfl))
  have y1 : w1.cell? ⟨w.heap.size, 1, none⟩ = some (.slice aw nw cw) := (hb1.cell (p := ⟨w.heap.size, 1, none⟩) (by simp; omega)).trans ((cell_old (by simp)).trans ((cell_new rfl).trans rfl))
  have r0 : w1.cell? ⟨w.heap.size + 1, 0, none⟩ = some (.slice none 0 0) := (hb1.cell (p := ⟨w.heap.size + 1, 0, none⟩) (by simp)).trans ((cell_new (by simp)).trans rfl)
  have r1 : w1.cell? ⟨w.heap.size + 1, 1, none⟩ = some (.slice none 0 0) := (hb1.cell (p := ⟨w.heap.size + 1, 1, none⟩) (by simp)).trans ((cell_new (by simp)).trans rfl)
  have rf := hide (fun j => show w1.frozen? ⟨w.heap.size + 1, j, none⟩ = false from (hb1.frozen (p := ⟨w.heap.size + 1, j, none⟩) (by simp)).trans (frozen_new (by simp)))
  have RB := hide (show w1.heap[w.heap.size + 1]? = some (.cells #[.slice none 0 0, .slice none 0 0] 50 (0, 0)) from by
    rw [hb1.block (w.heap.size + 1) (by omega)]
    have e : w.heap.size + 1 = (w.alloc (.cells #[.slice ah n c, .slice aw nw cw] 50)).heap.size := by simp
    rw [e]; exact heap_alloc_last _ _)
  have OO := hide hO
  have hbB := unhide HB
  have HWD := hide (show writeD xs ws at_ ds = ws ++ newW (readD xs ws) at_ ds from rfl)
  clear hb1 hO HL hz hb0 HB
  generalize readD xs ws = B at *
  obtain ⟨hB16, hB2048⟩ := hbB
  have hfl := fillN_le hB2048 hfit
  have hge := fillN_ge B.length (at_ + ds.length)
  go_wp2_with fail
  go_loopw [7] (fun o wr => ∃ (j g cap : Nat) (ys : List Int), B.length + j ≤ fillN B.length (at_ + ds.length) ∧ o = .slice (some ⟨g, 0, none⟩) ys.length cap ∧ Hid (ys.length = B.length + j) ∧ Hid (ys = B ++ List.replicate j 0) ∧ Hid (Owns wr (w.heap.size + 1 + 1) (.slice (some ⟨g, 0, none⟩) ys.length cap) ys) ∧ Below (w.heap.size + 1 + 1) w1 wr) (fun o _ => 4096 - (match o with | .slice _ l _ => l | _ => 0))
  case atStart => exact ⟨0, g, cap, B, by omega, rfl, by show B.length = _; simp, by show B = _; simp, unhide OO, Below.refl _ _⟩
  case round =>
    clear OO
    obtain ⟨j, g, cap, ys, hj, rfl, hyl, hy, hO, hb⟩ := hrel
    have hyb : B.length ≤ ys.length ∧ ys.length ≤ 2048 := by have := unhide hyl; omega
    have hsz : w.heap.size + 1 + 1 ≤ wr.heap.size := Nat.le_trans hs1 hb.size
    by_cases hlt : B.length + j < fillN B.length (at_ + ds.length)
    · have hc : ((ys.length : Int) < (at_ : Int) + (ds.length : Int)) ∨ ¬ ys.length % 16 = 0 := by
        have h1 := unhide hyl
        rcases fillN_more hB16 (show B.length ≤ B.length + j by omega) hlt with h | h
        · exact .inl (by omega)
        · exact .inr (by rw [h1]; exact h)
      have HS := hide (show ys ++ [0] = B ++ List.replicate (j + 1) 0 by rw [unhide hy, List.replicate_succ', List.append_assoc])
      have HSL := hide (show (ys ++ [(0 : Int)]).length = B.length + (j + 1) by rw [List.length_append, unhide hyl]; rfl)
      have q1 : ((at_ : Int) + (ds.length : Int) ≤ (ys.length : Int)) → ((ys.length : Int) % 16 != 0) = true := fun h => by
        have hh : ¬ ys.length % 16 = 0 := by omega
        rw [bne_iff_ne]; omega
      have Q1 := hide q1
      clear q1 hc
      by_cases hl1 : (ys.length : Int) < (at_ : Int) + (ds.length : Int)
      all_goals
        first | (have q2 := unhide Q1 (by omega)) | skip
        have hlen : ys.length ≤ 2048 := hyb.2
        clear Q1
        go_wp2_with (at_builtin; refine wpList_append_own _ rfl _ _ 22 rfl (w.heap.size + 1 + 1) 5 i0 (.int .u8 0) 1 1 Try.underlying22 hi hz0 hz1 hz2 rfl (by decide) _ _ _ rfl ((unhide hO).alloc _) ⟨wr.heap.size, 0, none⟩ 1 1 [.int .u8 0] rfl rfl (cell_one_new _ _ _) (one_u8 _) (by unfold maxLen; omega) (by omega) (by simp; omega) ?_)
        intro v2 w2 hown2 hgrow2 hnil2
        have O2 := owns_app hown2
        obtain ⟨g2, cap2, rfl, _⟩ := owns_formF O2 (fun e => by subst e; have := hnil2; simp at this)
        have O3 := hide O2
        have B2 := hide (below_app hb hsz (unhide hO) hgrow2)
        clear hown2 hgrow2 hnil2 O2 hO hb
        generalize ys ++ [(0 : Int)] = zs at *
        go_wp2_with fail
        go_roundw
        case rel => exact ⟨j + 1, g2, cap2, zs, by omega, rfl, unhide HSL, unhide HS, unhide O3, unhide B2⟩
        case measure => have := unhide HSL; have := unhide hyl; simp; omega
    · have hje : B.length + j = fillN B.length (at_ + ds.length) := by omega
      have HE := hide (show ys = B ++ List.replicate (fillN B.length (at_ + ds.length) - B.length) 0 by rw [unhide hy]; congr 2; omega)
      have hyl2 : ys.length = fillN B.length (at_ + ds.length) := by rw [unhide hyl]; exact hje
      have hl1 : ¬ (ys.length : Int) < (at_ : Int) + (ds.length : Int) := by omega
      have q2 : ((ys.length : Int) % 16 != 0) = false := by
        have := fillN_16 (n := at_ + ds.length) hB16
        rw [bne_eq_false_iff_eq]; omega
      have HYL := hide hyl2
      clear hyl hy hlt hje hyl2
      have hcap := owns_cap (unhide hO)
      have hac : at_ < cap := by omega
      have hbw : Below w.heap.size w wr := (unhide B1).trans (hb.mono (by omega))
      obtain ⟨w2, hcp, hO2, ho2⟩ := owns_copy (unhide hO) (row_grow (unhide HD) hbw) (o := at_) (show at_ + ds.length ≤ ys.length by omega) (ys.length - at_) (cap - at_) ds.length cd (show Nat.min ds.length (ys.length - at_) = ds.length from Nat.min_eq_left (by omega))
      rw [show putB ys at_ ds = allW B at_ ds by rw [unhide HE]; rfl] at hO2
      have hgB : w.heap.size + 1 + 1 ≤ g := ((unhide hO).lt g rfl).1
      have B2 : Below (w.heap.size + 1 + 1) w1 w2 := hb.trans (ho2.below hgB)
      have OO2 := hide hO2
      have hgt : ¬ cap = at_ := by omega
      clear hO ho2 hO2 hb hbw
      go_upto_region 7 with fail
      clear hcp
      have hbw2 : Below w.heap.size w w2 := (unhide B1).trans (B2.mono (by omega))
      have y0 := (B2.cell (p := ⟨w.heap.size, 0, none⟩) (by simp; omega)).trans y0
      have y1 := (B2.cell (p := ⟨w.heap.size, 1, none⟩) (by simp; omega)).trans y1
      have hs2 : w.heap.size + 1 + 1 ≤ w2.heap.size := Nat.le_trans hs1 B2.size
      have CW := hide (fun (u : World) (g0 : Nat) (hb0 : Below w2.heap.size w2 u) (hO : u.ownsRow w2.heap.size 101 2 (.slice (some ⟨g0, 0, none⟩) 0 0) 0 []) => copy_waiting 48 ((unhide HW).below hbw2) ((unhide HF).below (unhide HW) hbw2) (unhide HAW) (show nw ≤ 1048576 by omega) hb0 hO)
      have hlt2 : w.heap.size < w2.heap.size := by omega
      go_cut [8] (fun o wc => ∃ (ob g3 cap3 : Nat) (cs : List Value), o = .pointer (some ⟨ob, 0, none⟩) ∧ WOut B0 w2 wc ob g3 cap3 ah n c cs ws)
      case first =>
        have hzE : (w2.alloc (.cells #[] 101)).heap.size = w2.heap.size + 1 := by simp
        have hzO : (w2.alloc (.cells #[.slice none 0 0, .slice none 0 0] 50)).heap.size = w2.heap.size + 1 := by simp
        have bE := (Below.refl w2.heap.size w2).alloc (Nat.le_refl _) (.cells #[] 101)
        have bO := (Below.refl w2.heap.size w2).alloc (Nat.le_refl _) (.cells #[.slice none 0 0, .slice none 0 0] 50)
        have oE : (w2.alloc (.cells #[] 101)).ownsRow w2.heap.size 101 2 (.slice (some ⟨w2.heap.size, 0, none⟩) 0 0) 0 [] := World.ownsRow_lit (base := w2.heap.size) (e := 101) (size := 2) w2 #[] 0 (Nat.le_refl _) (by unfold maxLen; simp) rfl
        have oOE : ((w2.alloc (.cells #[.slice none 0 0, .slice none 0 0] 50)).alloc (.cells #[] 101)).ownsRow w2.heap.size 101 2 (.slice (some ⟨w2.heap.size + 1, 0, none⟩) 0 0) 0 [] := by
          have := World.ownsRow_lit (base := w2.heap.size) (e := 101) (size := 2) (w2.alloc (.cells #[.slice none 0 0, .slice none 0 0] 50)) #[] 0 (by simp) (by unfold maxLen; simp) rfl
          rwa [hzO] at this
        have CA := hide (unhide CW (w2.alloc (.cells #[] 101)).drew w2.heap.size (bel_drewN (n := 1) bE) oE)
        have box : ∀ (u w3 : World) (ob : Nat), u.heap[ob]? = some (.cells #[.slice none 0 0, .slice none 0 0] 50 (0, 0)) → w3.heap[ob]? = u.heap[ob]? → (w3.cell? ⟨ob, 0, none⟩ = some (.slice none 0 0) ∧ w3.cell? ⟨ob, 1, none⟩ = some (.slice none 0 0) ∧ w3.frozen? ⟨ob, 0, none⟩ = false ∧ w3.frozen? ⟨ob, 1, none⟩ = false ∧ ∃ cur, w3.heap[ob]? = some (.cells cur 50 (0, 0))) := fun u w3 ob h1 h2 => by
          have h3 := h2.trans h1
          refine ⟨?_, ?_, ?_, ?_, _, h3⟩ <;> simp [World.cell?, World.frozen?, h3]
        have CB := hide (show ∃ g3 cap3 w3 cs3, _ ∧ _ ∧ _ ∧ _ ∧ _ from by
          obtain ⟨g3, cap3, w3, cs3, hrun3, hO3, hC3, hb3, hz3, hk3⟩ := unhide CW ((w2.alloc (.cells #[] 101)).alloc (.cells #[.slice none 0 0, .slice none 0 0] 50)).drew w2.heap.size (bel_drewN (n := 1) (bE.alloc (by simp) _)) (oE.alloc _)
          exact ⟨g3, cap3, w3, cs3, hrun3, hO3, hC3, hb3, box ((w2.alloc (.cells #[] 101)).alloc (.cells #[.slice none 0 0, .slice none 0 0] 50)).drew w3 (w2.heap.size + 1) (by rw [← hzE]; exact heap_alloc_last _ _) (hk3 _ (by show w2.heap.size + 1 < ((w2.alloc _).alloc _).heap.size; simp) (by omega))⟩)
        have CC := hide (show ∃ g3 cap3 w3 cs3, _ ∧ _ ∧ _ ∧ _ ∧ _ from by
          obtain ⟨g3, cap3, w3, cs3, hrun3, hO3, hC3, hb3, hz3, hk3⟩ := unhide CW ((w2.alloc (.cells #[.slice none 0 0, .slice none 0 0] 50)).alloc (.cells #[] 101)).drew (w2.heap.size + 1) (bel_drewN (n := 1) (bO.alloc (by simp) _)) oOE
          exact ⟨g3, cap3, w3, cs3, hrun3, hO3, hC3, hb3, box ((w2.alloc (.cells #[.slice none 0 0, .slice none 0 0] 50)).alloc (.cells #[] 101)).drew w3 w2.heap.size (by show ((w2.alloc _).alloc _).heap[w2.heap.size]? = _; rw [Below.heap_alloc _ _ _ (by simp)]; exact heap_alloc_last _ _) (hk3 _ (by show w2.heap.size < ((w2.alloc _).alloc _).heap.size; simp; omega) (by omega))⟩)
        clear bE bO oE oOE hzE hzO CW box
        go_region_law (first
          | (obtain ⟨g3, cap3, w3, cs3, hrun3, hO3, hC3, hb3, hz3, hk3⟩ := unhide CA; have z0 := (hb3.cell (p := ⟨w.heap.size, 0, none⟩) hlt2).trans y0; have hl3 := Nat.lt_of_lt_of_le hlt2 hb3.size; refine step_append_eq rfl (.tmp 39) (.tmp 41) 48 rfl (.slice (some ⟨w2.heap.size, 0, none⟩) 0 0) (.slice aw nw cw) (.slice (some ⟨g3, 0, none⟩) ws.length cap3) w3 rfl rfl hrun3 ?_)
          | (obtain ⟨g3, cap3, w3, cs3, hrun3, hO3, hC3, hb3, q0, q1, f0, f1, hkd⟩ := unhide CB; have z0 := (hb3.cell (p := ⟨w.heap.size, 0, none⟩) hlt2).trans y0; have hl3 := Nat.lt_of_lt_of_le hlt2 hb3.size; refine step_append_eq rfl (.tmp 39) (.tmp 41) 48 rfl (.slice (some ⟨w2.heap.size, 0, none⟩) 0 0) (.slice aw nw cw) (.slice (some ⟨g3, 0, none⟩) ws.length cap3) w3 rfl rfl hrun3 ?_)
          | (obtain ⟨g3, cap3, w3, cs3, hrun3, hO3, hC3, hb3, q0, q1, f0, f1, hkd⟩ := unhide CC; have z0 := (hb3.cell (p := ⟨w.heap.size, 0, none⟩) hlt2).trans y0; have hl3 := Nat.lt_of_lt_of_le hlt2 hb3.size; refine step_append_eq rfl (.tmp 39) (.tmp 41) 48 rfl (.slice (some ⟨w2.heap.size + 1, 0, none⟩) 0 0) (.slice aw nw cw) (.slice (some ⟨g3, 0, none⟩) ws.length cap3) w3 rfl rfl hrun3 ?_))
        all_goals
          go_wp2_with fail
          go_meet
          case rel => first | exact ⟨w3.heap.size, g3, cap3, cs3, rfl, WOut.new hb3 hO3 hC3 (by omega)⟩ | exact ⟨w2.heap.size + 1, g3, cap3, cs3, rfl, WOut.lay hb3 (by omega) hkd q0 q1 hO3 hC3 (by omega)⟩ | exact ⟨w2.heap.size, g3, cap3, cs3, rfl, WOut.lay hb3 (Nat.le_refl _) hkd q0 q1 hO3 hC3 (by omega)⟩
      case rest =>
        obtain ⟨ob, g3, cap3, cs3, rfl, hW3⟩ := hcut
        have HO3 := hide hW3
        clear hW3 CW
        have HNL := hide (newW_len B at_ ds)
        have htl := touch_le hfit
        have ALL := hide (row_of_owns_len (unhide OO2) (allW_len B at_ ds))
        go_wp2_with fail
        go_loopw [9] (fun i wr => ∃ (k g3 cap3 : Nat) (cs : List Value), k ≤ touchN at_ ds.length ∧ i = .int .i64 ((at_ / 16 + k : Nat) : Int) ∧ Hid (WOut B0 w2 wr ob g3 cap3 ah n c cs (ws ++ (newW B at_ ds).take k))) (fun i _ => 4096 - (intOf i).toNat)
        case atStart => exact ⟨0, g3, cap3, cs3, Nat.zero_le _, by simp, by rw [List.take_zero, List.append_nil]; exact unhide HO3⟩
        case round =>
          clear HO3
          obtain ⟨k, g3, cap3, cs3, hk, rfl, hW⟩ := hrel
          have hk127 := htl.2 k
          by_cases hlt : k < touchN at_ ds.length
          · have h127 := hk127 hlt
            have hcond : ((at_ / 16 + k : Nat) : Int) * 16 < (at_ : Int) + (ds.length : Int) := by have := (touch_more (at_ := at_) hd0).2 hlt; omega
            have hin := sec_in B at_ ds hB16 k hlt hd0
            rw [allW_len, ← unhide HYL] at hin
            have SN := hide (newW_snoc B at_ ds k hlt)
            have hlen : (ws ++ (newW B at_ ds).take k).length ≤ 100000 := by have := (unhide HW).1; rw [List.length_append, List.length_take, unhide HNL]; omega
            have hs16 : (secW (allW B at_ ds) (at_ / 16 + k)).length = 16 := by unfold secW; rw [List.length_take, List.length_drop, allW_len, ← unhide HYL]; omega
            have hrow : Row wr (some ⟨g, (at_ / 16 + k) * 16, none⟩) 16 (secW (allW B at_ ds) (at_ / 16 + k)) := row_off (row_grow (unhide ALL) (unhide hW).bel) _ _ (by rw [← unhide HYL]; omega)
            obtain ⟨g4, cap4, w4, v5, w5, cs5, hr1, hr2, ho5, hv5, hc5, hb5, hk5, hb4⟩ := write_one (unhide hW).own (unhide hW).lowB (unhide hW).cells (unhide hW).bel.size hlen g ((at_ / 16 + k) * 16) (cap - (at_ / 16 + k) * 16) (at_ / 16 + k) _ hs16 hrow
            obtain ⟨g5, cap5, rfl⟩ : ∃ g5 cap5, v5 = .slice (some ⟨g5, 0, none⟩) ((ws ++ (newW B at_ ds).take k).length + 1) cap5 := by
              rcases ho5.2 with ⟨e, _⟩ | ⟨g, cap, _, e, _⟩
              · exact absurd e hv5
              · exact ⟨g, cap, e⟩
            have WM := WOut.more (unhide hW) (d := ⟨((at_ / 16 + k : Nat) : Int), secW (allW B at_ ds) (at_ / 16 + k)⟩) (g5 := g5) (cap5 := cap5) (cs' := cs5) (by rw [List.length_append]; exact ho5) hc5 hb5 (fun j hj hne => hk5 j hj (by simp [Value.ownBlock]; exact hne))
            obtain ⟨⟨c15, f15, hobl⟩, hW5⟩ := WM
            rw [List.append_assoc, ← unhide SN] at hW5
            have HLL := hide (show (ws ++ (newW B at_ ds).take (k + 1)).length = (ws ++ (newW B at_ ds).take k).length + 1 by rw [unhide SN, ← List.append_assoc, List.length_append]; rfl)
            have c1r := (unhide hW).c1
            have c14 := (hb4.cell (p := ⟨ob, 1, none⟩) hobl).trans c1r
            have hob4 := Nat.lt_of_lt_of_le hobl hb4.size
            rw [unhide HLL] at hW5
            have HW5 := hide hW5
            have hr1' : (Builtin.append_ #[22, 22] 22 #[.slice (some ⟨wr.heap.size, 0, none⟩) 0 0, .slice (some ⟨g, (at_ / 16 + k) * 16, none⟩) 16 (cap - (at_ / 16 + k) * 16)]).run Try.prog (wr.alloc (.cells #[] 5)).drew = .ok (.slice (some ⟨g4, 0, none⟩) 16 cap4) w4 := hr1
            clear hr1 hW hW5 ho5 hv5 hc5 hb5 hk5 hb4 hrow hs16 SN hk127
            generalize (ws ++ (newW B at_ ds).take k).length = L at *
            obtain ⟨s, hs⟩ : ∃ s, s = at_ / 16 + k := ⟨_, rfl⟩
            rw [← hs] at hr1' hr2 hcond h127 hin ⊢
            have HS := hide hs
            have hsc : s * 16 < cap := by omega
            have hsc2 : (s + 1) * 16 ≤ cap := by omega
            have hle1 : (s : Int) * 16 ≤ ((s : Int) + 1) * 16 := by omega
            clear hs
            have hwa : IntKind.i64.wrap ((s : Int) * 16) = (s : Int) * 16 := by rw [IntKind.wrap_i64]; omega
            have hwb : IntKind.i64.wrap ((s : Int) + 1) = (s : Int) + 1 := by rw [IntKind.wrap_i64]; omega
            have hwc : IntKind.i64.wrap (((s : Int) + 1) * 16) = ((s : Int) + 1) * 16 := by rw [IntKind.wrap_i64]; omega
            have hta : ((s : Int) * 16).toNat = s * 16 := by omega
            have htb : (((s : Int) + 1) * 16).toNat = (s + 1) * 16 := by omega
            have hia : (0 : Int) ≤ (s : Int) * 16 := by omega
            have hib : (0 : Int) ≤ ((s : Int) + 1) * 16 := by omega
            have hic : ((s : Int) + 1) * 16 ≤ (cap : Int) := by omega
            have hid : (s : Int) ≤ (s : Int) + 1 := by omega
            have hne : ¬ cap = s * 16 := by omega
            have h16e : (s + 1) * 16 - s * 16 = 16 := by omega
            go_wp2_with fail
            go_region_law (first
              | refine step_append_eq rfl (.tmp 58) (.tmp 65) 22 rfl (.slice (some ⟨wr.heap.size, 0, none⟩) 0 0) (.slice (some ⟨g, s * 16, none⟩) 16 (cap - s * 16)) (.slice (some ⟨g4, 0, none⟩) 16 cap4) w4 rfl rfl hr1' ?_
              | refine step_append_eq rfl (.tmp 56) (.tmp 68) 48 rfl (.slice (some ⟨g3, 0, none⟩) L cap3) (.slice (some ⟨w4.heap.size, 0, none⟩) 1 1) (.slice (some ⟨g5, 0, none⟩) (L + 1) cap5) w5 rfl rfl hr2 ?_)
            all_goals
              have R := hide (show WOut B0 w2 (w5.setCell ⟨ob, 1, none⟩ (.slice (some ⟨g5, 0, none⟩) (L + 1) cap5)) ob g5 cap5 ah n c cs5 (ws ++ (newW B at_ ds).take (k + 1)) from unhide HW5)
              clear HW5 hr1' hr2
              go_wp2_with fail
              go_roundw
              case rel => exact ⟨k + 1, g5, cap5, cs5, by omega, by rw [unhide HS]; go_num, unhide R⟩
              case measure => simp [intOf]; omega
          · obtain rfl : k = touchN at_ ds.length := by omega
            have hcond : ¬ ((at_ / 16 + touchN at_ ds.length : Nat) : Int) * 16 < (at_ : Int) + (ds.length : Int) := by
              have := touch_more (at_ := at_) (i := touchN at_ ds.length) hd0
              omega
            have hW2 := unhide hW
            rw [List.take_of_length_le (by rw [unhide HNL]; exact Nat.le_refl _), ← unhide HWD] at hW2
            obtain ⟨a6, c6, e6, hr6⟩ := wrow_owns hW2.own hW2.cells rfl
            have c0 := hW2.c0
            have c1 := hW2.c1
            have B6 := hbw2.trans (hW2.bel.mono (by omega))
            have bb : Below (w.heap.size + 1 + 1) w1 wr := B2.trans (hW2.bel.mono (by omega))
            have r0 := (bb.cell (p := ⟨w.heap.size + 1, 0, none⟩) (by simp)).trans r0
            have r1 := (bb.cell (p := ⟨w.heap.size + 1, 1, none⟩) (by simp)).trans r1
            have f0 := (bb.frozen (p := ⟨w.heap.size + 1, 0, none⟩) (by simp)).trans (unhide rf 0)
            have f1 := (bb.frozen (p := ⟨w.heap.size + 1, 1, none⟩) (by simp)).trans (unhide rf 1)
            injection e6 with e61 _ e63
            subst e61 e63
            have HR6 := hide hr6
            have RB6 := hide ((bb.block (w.heap.size + 1) (by omega)).trans (unhide RB))
            have hls := hW2.low
            have OW6 := hide hW2.own
            have CW6 := hide hW2.cells
            have hl6 := hW2.lowB
            clear hW2 hW hr6 bb
            generalize hzs : writeD xs ws at_ ds = zs at *
            have HZ2 := hide hzs
            clear hzs
            go_wp2_with fail
            refine bodyPost_ret (v := fv ah n c (some ⟨g3, 0, none⟩) zs.length cap3) (by simp [results, Try.results79, go_sem, r0, r1]) rfl ⟨g3, cap3, by rw [unhide HZ2], ?_, (B6.setCell (p := ⟨w.heap.size + 1, 0, none⟩) (by simp) _).setCell (p := ⟨w.heap.size + 1, 1, none⟩) (by simp) _, ?_⟩
            · rw [unhide HZ2]
              exact (unhide HR6).box (unhide RB6) _ _
            · rw [unhide HZ2]
              exact wcs_box (unhide OW6) (by omega) (unhide CW6) (by omega) (unhide RB6) _ _
theorem l02Write_gen (ah : Option Addr) (n c : Nat) (aw : Option Addr) (nw cw : Nat) (at_ : Nat) (bd od cd : Nat) (ds : List Int) (xs : List Int) (ws : List WD) (w : World) (hR : Row w ah n xs) (hah : Adr ah n c) (hW : WRow w aw nw ws) (hn : n ≤ 2048) (h16 : n % 16 = 0) (hnw : nw ≤ 4096) (hall : ∀ d ∈ ws, okW d = true) (hds : Row w (some ⟨bd, od, none⟩) ds.length ds) (hd0 : 0 < ds.length) (hfit : at_ + ds.length ≤ 2048) (haw : aw = none → nw = 0 ∧ cw = 0) :
    Calls Try.prog 79 #[fv ah n c aw nw cw, .int .i64 (at_ : Int), .slice (some ⟨bd, od, none⟩) ds.length cd] w fun e w' => ∃ g cw', e = .returned (fv ah n c (some ⟨g, 0, none⟩) (writeD xs ws at_ ds).length cw') ∧ WRow w' (some ⟨g, 0, none⟩) (writeD xs ws at_ ds).length (writeD xs ws at_ ds) ∧ Below w.heap.size w w' :=
  (l02Write_far ah n c aw nw cw at_ bd od cd ds xs ws w hR hah hW w.heap.size (Nat.le_refl _) (FarW.all hW) hn h16 hnw hall hds hd0 hfit haw).mono fun _ _ ⟨g, cw', h1, h2, h3, _⟩ => ⟨g, cw', h1, h2, h3⟩
theorem l02Write_some (b off n c : Nat) (aw : Option Addr) (nw cw : Nat) (at_ : Nat) (bd od cd : Nat) (ds : List Int) (xs : List Int) (ws : List WD) (w : World) (hR : Row w (some ⟨b, off, none⟩) n xs) (hW : WRow w aw nw ws) (hn : n ≤ 2048) (h16 : n % 16 = 0) (hnw : nw ≤ 4096) (hall : ∀ d ∈ ws, okW d = true) (hds : Row w (some ⟨bd, od, none⟩) ds.length ds) (hd0 : 0 < ds.length) (hfit : at_ + ds.length ≤ 2048) (haw : aw = none → nw = 0 ∧ cw = 0) :
    Calls Try.prog 79 #[fv (some ⟨b, off, none⟩) n c aw nw cw, .int .i64 (at_ : Int), .slice (some ⟨bd, od, none⟩) ds.length cd] w fun e w' => ∃ g cw', e = .returned (fv (some ⟨b, off, none⟩) n c (some ⟨g, 0, none⟩) (writeD xs ws at_ ds).length cw') ∧ WRow w' (some ⟨g, 0, none⟩) (writeD xs ws at_ ds).length (writeD xs ws at_ ds) ∧ Below w.heap.size w w' :=
  l02Write_gen (some ⟨b, off, none⟩) n c aw nw cw at_ bd od cd ds xs ws w hR (.inr ⟨b, off, rfl⟩) hW hn h16 hnw hall hds hd0 hfit haw
end Go.Proofs.Ytgifcaeemfaihaa
