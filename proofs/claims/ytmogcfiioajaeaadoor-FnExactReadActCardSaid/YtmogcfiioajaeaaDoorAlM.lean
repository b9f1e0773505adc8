/-
  The reader's acts: those of a session.
-/
import Derived.Test.YtmogcfiioajaeaaDoorAlK
namespace Go.Proofs.YtmogcfiioajaeaaDoor
open Go.RowKit

/-- What the reading of an act without flags comes to. -/
def TxR (R : Nat) (o : Option (AlD × List ByteArray)) (w : World) (e : Ending) (w' : World) : Prop :=
  Wrote R w w' ∧ ((∃ d r, o = some (d, r) ∧ d.keep = [] ∧ e = .returned (.agg (alC d (.slice none 0 0))) ∧ RdW w' R r) ∨ (o = none ∧ e = noE))
def txI (kind : Int) : List ByteArray → Option (AlD × List ByteArray)
  | k :: r => (numV k.data.toList).map fun v => (⟨1, 0, kind, v, ⟨#[]⟩, ⟨#[]⟩, ⟨#[]⟩, []⟩, r)
  | [] => none
def keyI (kind : Int) (L : List ByteArray) : Option (AlD × List ByteArray) := match txI kind L with
  | some (d, x :: r) => some (⟨d.kind, d.torn, d.tk, d.ts, x, d.to, d.val, d.keep⟩, r)
  | _ => none
def putI (L : List ByteArray) : Option (AlD × List ByteArray) := match keyI 4 L with
  | some (d, x :: r) => some (⟨d.kind, d.torn, d.tk, d.ts, d.key, d.to, x, d.keep⟩, r)
  | _ => none
def scanI (L : List ByteArray) : Option (AlD × List ByteArray) := match txI 3 L with
  | some (d, r) => some (⟨d.kind, d.torn, d.tk, d.ts, r.headD ⟨#[]⟩, r.tail.headD ⟨#[]⟩, d.val, d.keep⟩, r.tail.tail)
  | none => none
theorem RdW.keep {w w' : World} {R : Nat} {L : List ByteArray} (h : RdW w R L) (hR : w'.heap[R]? = w.heap[R]?) (hk : ∀ i, i + 2 < R → w'.heap[i]? = w.heap[i]?) : RdW w' R L := by
  obtain ⟨a, n, c, h1, h2, h3, h4, h5, h6⟩ := h
  refine ⟨a, n, c, hR.trans h1, ⟨h2.1, fun i hi => ?_⟩, h3, h4, h5, h6⟩
  obtain ⟨b, off, e, q⟩ := h2.2 i hi
  exact ⟨b, off, e, (World.cell?_of_block (w := w) (hk b (by have := h5 _ e; simp only at this; omega))).trans q⟩
theorem rd_sv8 {w : World} {R b : Nat} {L : List ByteArray} (h : RdW w R L) (hb : R < b) (v0 v1 v2 v3 v4 v5 v6 v7 : Value) : RdW (sv8 w b v0 v1 v2 v3 v4 v5 v6 v7) R L :=
  h.keep (sv8_other (by omega) _ _ _ _ _ _ _ _) fun i hi => sv8_other (by omega) _ _ _ _ _ _ _ _
theorem wrote_cell {w u : World} {R b j : Nat} {v : Value} (h : Wrote R w u) (hb : w.heap.size ≤ b) : Wrote R w (u.setCell ⟨b, j, none⟩ v) :=
  ⟨h.os, h.tape, h.output, by have := h.size; simp only [World.setCell, Array.size_modify]; exact this, fun k hk hl => (Below.heap_setCell _ _ _ _ (by show k ≠ b; omega)).trans (h.block k hk hl)⟩
theorem wrote_sv8 {w u : World} {R b : Nat} (h : Wrote R w u) (hb : w.heap.size ≤ b) (v0 v1 v2 v3 v4 v5 v6 v7 : Value) : Wrote R w (sv8 u b v0 v1 v2 v3 v4 v5 v6 v7) :=
  wrote_cell (wrote_cell (wrote_cell (wrote_cell (wrote_cell (wrote_cell (wrote_cell (wrote_cell h hb) hb) hb) hb) hb) hb) hb) hb
theorem rd_cell {w : World} {R b j : Nat} {L : List ByteArray} {v : Value} (h : RdW w R L) (hb : R < b) : RdW (w.setCell ⟨b, j, none⟩ v) R L :=
  h.keep (Below.heap_setCell _ _ _ _ (by show R ≠ b; omega)) fun i hi => Below.heap_setCell _ _ _ _ (by show i ≠ b; omega)
set_option maxRecDepth 100000 in
set_option maxHeartbeats 4000000 in
theorem tx_any (R : Nat) (kind : Int) (L : List ByteArray) (w : World) (h : RdW w R L) (hL : LibW w) (hR : 8 ≤ R) :
    Calls Tryd.prog 44 #[.pointer (some ⟨R, 0, none⟩), .int .i64 kind] w fun e w' => TxR R (txI kind L) w e w' := by
  have hlt := hide h.lt
  obtain ⟨W, hW⟩ : ∃ W, W = w.alloc (.cells #[.int .i64 0, .int .i64 0, .int .i64 0, .int .i64 0, .string ⟨#[]⟩, .string ⟨#[]⟩, .string ⟨#[]⟩, .slice none 0 0] 26) := ⟨_, rfl⟩
  have bW : Below w.heap.size w W := by rw [hW]; exact (Below.refl _ _).alloc (Nat.le_refl _) _
  have kW : W.heap[w.heap.size]? = some (.cells #[.int .i64 0, .int .i64 0, .int .i64 0, .int .i64 0, .string ⟨#[]⟩, .string ⟨#[]⟩, .string ⟨#[]⟩, .slice none 0 0] 26 (0, 0)) := by rw [hW]; exact heap_alloc_new _ _
  have hLW := hL.wrote (R := R) (Wrote.of_below bW) hR (by have := h.lt; omega)
  have C := hide (number_any R L W (h.below bW) hLW hR)
  have BW := hide bW
  have KW := hide kW
  clear bW kW hLW h hL
  go_enter Tryd.func44, Tryd.ntmps44
  go_upto_region 1 with fail
  rw [← hW]
  clear hW
  go_wp2_with fail
  refine (unhide C).mono ?_
  rintro e w2 ⟨hw, hc⟩
  have KW2 := hide ((hw.block _ (by have := unhide hlt; omega) (al_lt (unhide KW))).trans (unhide KW))
  have HW2 := hide ((Wrote.of_below (unhide BW)).trans hw)
  clear KW BW C hw
  rcases hc with ⟨k, r, v, rfl, hv, rfl, hr⟩ | ⟨rfl, hn⟩
  · have HV := hide hv
    have HRR := hide hr
    clear hv hr
    have run := run_storeAl (unhide KW2) ⟨1, 0, kind, v, ⟨#[]⟩, ⟨#[]⟩, ⟨#[]⟩, []⟩ none 0 0
    have kk := hide (sv8_heap (unhide KW2) (.int .i64 1) (.int .i64 0) (.int .i64 kind) (.int .i64 v) (.string ⟨#[]⟩) (.string ⟨#[]⟩) (.string ⟨#[]⟩) (.slice none 0 0))
    have RES := hide (show TxR R (txI kind (k :: r)) w (.returned (.agg #[.int .i64 1, .int .i64 0, .int .i64 kind, .int .i64 v, .string ⟨#[]⟩, .string ⟨#[]⟩, .string ⟨#[]⟩, .slice none 0 0])) (sv8 w2 w.heap.size (.int .i64 1) (.int .i64 0) (.int .i64 kind) (.int .i64 v) (.string ⟨#[]⟩) (.string ⟨#[]⟩) (.string ⟨#[]⟩) (.slice none 0 0)) from ⟨wrote_sv8 (unhide HW2) (Nat.le_refl _) (.int .i64 1) (.int .i64 0) (.int .i64 kind) (.int .i64 v) (.string ⟨#[]⟩) (.string ⟨#[]⟩) (.string ⟨#[]⟩) (.slice none 0 0), .inl ⟨⟨1, 0, kind, v, ⟨#[]⟩, ⟨#[]⟩, ⟨#[]⟩, []⟩, r, (congrArg (Option.map _) (unhide HV)).trans rfl, rfl, rfl, rd_sv8 (unhide HRR) (unhide hlt) (.int .i64 1) (.int .i64 0) (.int .i64 kind) (.int .i64 v) (.string ⟨#[]⟩) (.string ⟨#[]⟩) (.string ⟨#[]⟩) (.slice none 0 0)⟩⟩)
    unfold sv8d at run
    simp only at run
    clear HV HRR KW2 HW2
    go_wp2_with (first | (refine al_wpStore rfl (.tmp 4) (.tmp 9) 26 rfl _ _ _ (by simp [Act.eval]) (by simp [Act.eval]) run ?_))
    generalize sv8 _ w.heap.size (.int .i64 1) (.int .i64 0) (.int .i64 kind) (.int .i64 v) (.string ⟨#[]⟩) (.string ⟨#[]⟩) (.string ⟨#[]⟩) (.slice none 0 0) = u at *
    have y0 := (heap_at (unhide kk) 0).1
    have y1 := (heap_at (unhide kk) 1).1
    have y2 := (heap_at (unhide kk) 2).1
    have y3 := (heap_at (unhide kk) 3).1
    have y4 := (heap_at (unhide kk) 4).1
    have y5 := (heap_at (unhide kk) 5).1
    have y6 := (heap_at (unhide kk) 6).1
    have y7 := (heap_at (unhide kk) 7).1
    clear run kk
    go_wp2_with fail
    refine bodyPost_ret (v := .agg #[.int .i64 1, .int .i64 0, .int .i64 kind, .int .i64 v, .string ⟨#[]⟩, .string ⟨#[]⟩, .string ⟨#[]⟩, .slice none 0 0]) (by simp [results, Tryd.results44, go_sem, y0, y1, y2, y3, y4, y5, y6, y7]) rfl ?_
    exact unhide RES
  · have HN := hide (show txI kind L = none from by
      cases L with
      | nil => rfl
      | cons k r => exact (congrArg (Option.map _) (hn k r rfl)).trans rfl)
    clear hn
    have RES := hide (show TxR R (txI kind L) w noE w2 from ⟨unhide HW2, .inr ⟨unhide HN, rfl⟩⟩)
    clear KW2 HW2 HN
    unfold noE
    go_wp2_with fail
    exact ⟨rfl, unhide RES⟩
set_option maxRecDepth 100000 in
set_option maxHeartbeats 4000000 in
theorem keyed_any (R : Nat) (kind : Int) (L : List ByteArray) (w : World) (h : RdW w R L) (hL : LibW w) (hR : 8 ≤ R) :
    Calls Tryd.prog 45 #[.pointer (some ⟨R, 0, none⟩), .int .i64 kind] w fun e w' => TxR R (keyI kind L) w e w' := by
  have hlt := hide h.lt
  obtain ⟨W, hW⟩ : ∃ W, W = w.alloc (.cells #[.int .i64 0, .int .i64 0, .int .i64 0, .int .i64 0, .string ⟨#[]⟩, .string ⟨#[]⟩, .string ⟨#[]⟩, .slice none 0 0] 26) := ⟨_, rfl⟩
  have bW : Below w.heap.size w W := by rw [hW]; exact (Below.refl _ _).alloc (Nat.le_refl _) _
  have kW : W.heap[w.heap.size]? = some (.cells #[.int .i64 0, .int .i64 0, .int .i64 0, .int .i64 0, .string ⟨#[]⟩, .string ⟨#[]⟩, .string ⟨#[]⟩, .slice none 0 0] 26 (0, 0)) := by rw [hW]; exact heap_alloc_new _ _
  have hLW := hL.wrote (R := R) (Wrote.of_below bW) hR (by have := h.lt; omega)
  have C := hide (tx_any R kind L W (h.below bW) hLW hR)
  have BW := hide bW
  have KW := hide kW
  clear bW kW hLW h
  have LW := hide hL
  clear hL
  go_enter Tryd.func45, Tryd.ntmps45
  go_upto_region 1 with fail
  rw [← hW]
  clear hW
  go_wp2_with fail
  refine (unhide C).mono ?_
  rintro e w2 ⟨hw, hc⟩
  have KW2 := hide ((hw.block _ (by have := unhide hlt; omega) (al_lt (unhide KW))).trans (unhide KW))
  have HW2 := hide ((Wrote.of_below (unhide BW)).trans hw)
  clear KW BW C hw
  rcases hc with ⟨⟨d1, d2, d3, d4, d5, d6, d7, d8⟩, r, hv, h8, rfl, hr⟩ | ⟨hn, rfl⟩
  · simp only [alC]
    simp only at h8
    subst h8
    have HV := hide hv
    have HRR := hide hr
    clear hv hr
    obtain ⟨W3, hW3⟩ : ∃ W3, W3 = w2.alloc (.cells #[.int .i64 d1, .int .i64 d2, .int .i64 d3, .int .i64 d4, .string d5, .string d6, .string d7, .slice none 0 0] 26) := ⟨_, rfl⟩
    have b3 : Below w2.heap.size w2 W3 := by rw [hW3]; exact (Below.refl _ _).alloc (Nat.le_refl _) _
    have K3 := hide (show W3.heap[w2.heap.size]? = some (.cells #[.int .i64 d1, .int .i64 d2, .int .i64 d3, .int .i64 d4, .string d5, .string d6, .string d7, .slice none 0 0] 26 (0, 0)) from by rw [hW3]; exact heap_alloc_new _ _)
    have KW3 := hide ((b3.block _ (al_lt (unhide KW2))).trans (unhide KW2))
    have HW3 := hide ((unhide HW2).trans (Wrote.of_below b3))
    have R3 := hide ((unhide HRR).below b3)
    have hab := hide (show w.heap.size < w2.heap.size from al_lt (unhide KW2))
    clear KW2 HW2 HRR b3
    go_upto_region 2 with fail
    rw [← hW3]
    clear hW3
    generalize w2.heap.size = A2 at *
    cases r with
    | nil =>
      have C2 := hide (word_nil R W3 (unhide R3))
      have HN := hide (show keyI kind L = none from by unfold keyI; rw [unhide HV])
      clear KW3
      go_wp2_with fail
      refine (unhide C2).mono ?_
      rintro e w5 ⟨rfl, rfl⟩
      clear C2
      have RES := hide (show TxR R (keyI kind L) w noE w5 from ⟨unhide HW3, .inr ⟨unhide HN, rfl⟩⟩)
      clear HW3 HN K3 R3
      unfold noE
      go_wp2_with fail
      exact ⟨rfl, unhide RES⟩
    | cons x0 r0 =>
      have C2 := hide (word_cons R x0 r0 W3 (unhide R3))
      clear R3
      go_wp2_with fail
      refine (unhide C2).mono ?_
      rintro e w10 ⟨rfl, hr, hw⟩
      have K10 := hide ((hw.block A2 (by have := unhide hlt; have := unhide hab; omega) (al_lt (unhide K3))).trans (unhide K3))
      have KW10 := hide ((hw.block _ (by have := unhide hlt; omega) (al_lt (unhide KW3))).trans (unhide KW3))
      have HW10 := hide ((unhide HW3).trans hw)
      have R10 := hide hr
      clear C2 hr hw K3 KW3 HW3
      have c0 := heap_at (unhide K10) 4
      have run0 := run_storeS c0.1 c0.2 x0
      have K20 := hide (show (w10.setCell ⟨A2, 4, none⟩ (.string x0)).heap[A2]? = some (.cells #[.int .i64 d1, .int .i64 d2, .int .i64 d3, .int .i64 d4, .string x0, .string d6, .string d7, .slice none 0 0] 26 (0, 0)) from heap_set (unhide K10) 4 _)
      have KW20 := hide (show (w10.setCell ⟨A2, 4, none⟩ (.string x0)).heap[w.heap.size]? = _ from (Below.heap_setCell _ _ _ _ (by show w.heap.size ≠ A2; have := unhide hab; omega)).trans (unhide KW10))
      have HW20 := hide (show Wrote R w (w10.setCell ⟨A2, 4, none⟩ (.string x0)) from wrote_cell (unhide HW10) (by have := unhide hab; omega))
      have R20 := hide (show RdW (w10.setCell ⟨A2, 4, none⟩ (.string x0)) R _ from rd_cell (unhide R10) (by have := unhide hlt; have := unhide hab; omega))
      clear K10 KW10 HW10 R10 c0
      go_upto_region 3 with (first | (refine al_wpStore rfl (.tmp 12) (.tmp 10) 9 rfl _ _ _ (by simp [Act.eval]) (by simp [Act.eval]) run0 ?_))
      clear run0
      generalize w10.setCell ⟨A2, 4, none⟩ (.string x0) = W20 at *
      have z0 := (heap_at (unhide K20) 0).1
      have z1 := (heap_at (unhide K20) 1).1
      have z2 := (heap_at (unhide K20) 2).1
      have z3 := (heap_at (unhide K20) 3).1
      have z4 := (heap_at (unhide K20) 4).1
      have z5 := (heap_at (unhide K20) 5).1
      have z6 := (heap_at (unhide K20) 6).1
      have z7 := (heap_at (unhide K20) 7).1
      have run := run_storeAl (unhide KW20) ⟨d1, d2, d3, d4, x0, d6, d7, []⟩ none 0 0
      have kk := hide (sv8_heap (unhide KW20) (.int .i64 d1) (.int .i64 d2) (.int .i64 d3) (.int .i64 d4) (.string x0) (.string d6) (.string d7) (.slice none 0 0))
      have RES := hide (show TxR R (keyI kind L) w (.returned (.agg #[.int .i64 d1, .int .i64 d2, .int .i64 d3, .int .i64 d4, .string x0, .string d6, .string d7, .slice none 0 0])) (sv8 W20 w.heap.size (.int .i64 d1) (.int .i64 d2) (.int .i64 d3) (.int .i64 d4) (.string x0) (.string d6) (.string d7) (.slice none 0 0)) from ⟨wrote_sv8 (unhide HW20) (Nat.le_refl _) (.int .i64 d1) (.int .i64 d2) (.int .i64 d3) (.int .i64 d4) (.string x0) (.string d6) (.string d7) (.slice none 0 0), .inl ⟨⟨d1, d2, d3, d4, x0, d6, d7, []⟩, r0, by unfold keyI; rw [unhide HV], rfl, rfl, rd_sv8 (unhide R20) (unhide hlt) (.int .i64 d1) (.int .i64 d2) (.int .i64 d3) (.int .i64 d4) (.string x0) (.string d6) (.string d7) (.slice none 0 0)⟩⟩)
      unfold sv8d at run
      simp only at run
      clear K20 KW20 HW20 R20
      go_wp2_with (first | (refine al_wpStore rfl (.tmp 4) (.tmp 13) 26 rfl _ _ _ (by simp [Act.eval]) (by simp [Act.eval]) run ?_))
      generalize sv8 _ w.heap.size (.int .i64 d1) (.int .i64 d2) (.int .i64 d3) (.int .i64 d4) (.string x0) (.string d6) (.string d7) (.slice none 0 0) = u at *
      have y0 := (heap_at (unhide kk) 0).1
      have y1 := (heap_at (unhide kk) 1).1
      have y2 := (heap_at (unhide kk) 2).1
      have y3 := (heap_at (unhide kk) 3).1
      have y4 := (heap_at (unhide kk) 4).1
      have y5 := (heap_at (unhide kk) 5).1
      have y6 := (heap_at (unhide kk) 6).1
      have y7 := (heap_at (unhide kk) 7).1
      clear run kk
      go_wp2_with fail
      refine bodyPost_ret (v := .agg #[.int .i64 d1, .int .i64 d2, .int .i64 d3, .int .i64 d4, .string x0, .string d6, .string d7, .slice none 0 0]) (by simp [results, Tryd.results45, go_sem, y0, y1, y2, y3, y4, y5, y6, y7]) rfl ?_
      exact unhide RES
  · have HN := hide (show keyI kind L = none from by unfold keyI; rw [hn])
    clear hn
    have RES := hide (show TxR R (keyI kind L) w noE w2 from ⟨unhide HW2, .inr ⟨unhide HN, rfl⟩⟩)
    clear KW2 HW2 HN LW
    unfold noE
    go_wp2_with fail
    exact ⟨rfl, unhide RES⟩
set_option maxRecDepth 100000 in
set_option maxHeartbeats 4000000 in
theorem put_any (R : Nat) (L : List ByteArray) (w : World) (h : RdW w R L) (hL : LibW w) (hR : 8 ≤ R) :
    Calls Tryd.prog 35 #[.pointer (some ⟨R, 0, none⟩)] w fun e w' => TxR R (putI L) w e w' := by
  have hlt := hide h.lt
  obtain ⟨W, hW⟩ : ∃ W, W = w.alloc (.cells #[.int .i64 0, .int .i64 0, .int .i64 0, .int .i64 0, .string ⟨#[]⟩, .string ⟨#[]⟩, .string ⟨#[]⟩, .slice none 0 0] 26) := ⟨_, rfl⟩
  have bW : Below w.heap.size w W := by rw [hW]; exact (Below.refl _ _).alloc (Nat.le_refl _) _
  have kW : W.heap[w.heap.size]? = some (.cells #[.int .i64 0, .int .i64 0, .int .i64 0, .int .i64 0, .string ⟨#[]⟩, .string ⟨#[]⟩, .string ⟨#[]⟩, .slice none 0 0] 26 (0, 0)) := by rw [hW]; exact heap_alloc_new _ _
  have hLW := hL.wrote (R := R) (Wrote.of_below bW) hR (by have := h.lt; omega)
  have C := hide (keyed_any R 4 L W (h.below bW) hLW hR)
  have BW := hide bW
  have KW := hide kW
  clear bW kW hLW h
  have LW := hide hL
  clear hL
  go_enter Tryd.func35, Tryd.ntmps35
  go_upto_region 1 with fail
  rw [← hW]
  clear hW
  go_wp2_with fail
  refine (unhide C).mono ?_
  rintro e w2 ⟨hw, hc⟩
  have KW2 := hide ((hw.block _ (by have := unhide hlt; omega) (al_lt (unhide KW))).trans (unhide KW))
  have HW2 := hide ((Wrote.of_below (unhide BW)).trans hw)
  clear KW BW C hw
  rcases hc with ⟨⟨d1, d2, d3, d4, d5, d6, d7, d8⟩, r, hv, h8, rfl, hr⟩ | ⟨hn, rfl⟩
  · simp only [alC]
    simp only at h8
    subst h8
    have HV := hide hv
    have HRR := hide hr
    clear hv hr
    obtain ⟨W3, hW3⟩ : ∃ W3, W3 = w2.alloc (.cells #[.int .i64 d1, .int .i64 d2, .int .i64 d3, .int .i64 d4, .string d5, .string d6, .string d7, .slice none 0 0] 26) := ⟨_, rfl⟩
    have b3 : Below w2.heap.size w2 W3 := by rw [hW3]; exact (Below.refl _ _).alloc (Nat.le_refl _) _
    have K3 := hide (show W3.heap[w2.heap.size]? = some (.cells #[.int .i64 d1, .int .i64 d2, .int .i64 d3, .int .i64 d4, .string d5, .string d6, .string d7, .slice none 0 0] 26 (0, 0)) from by rw [hW3]; exact heap_alloc_new _ _)
    have KW3 := hide ((b3.block _ (al_lt (unhide KW2))).trans (unhide KW2))
    have HW3 := hide ((unhide HW2).trans (Wrote.of_below b3))
    have R3 := hide ((unhide HRR).below b3)
    have hab := hide (show w.heap.size < w2.heap.size from al_lt (unhide KW2))
    clear KW2 HW2 HRR b3
    go_upto_region 2 with fail
    rw [← hW3]
    clear hW3
    generalize w2.heap.size = A2 at *
    cases r with
    | nil =>
      have C2 := hide (word_nil R W3 (unhide R3))
      have HN := hide (show putI L = none from by unfold putI; rw [unhide HV])
      clear KW3
      go_wp2_with fail
      refine (unhide C2).mono ?_
      rintro e w5 ⟨rfl, rfl⟩
      clear C2
      have RES := hide (show TxR R (putI L) w noE w5 from ⟨unhide HW3, .inr ⟨unhide HN, rfl⟩⟩)
      clear HW3 HN K3 R3
      unfold noE
      go_wp2_with fail
      exact ⟨rfl, unhide RES⟩
    | cons x0 r0 =>
      have C2 := hide (word_cons R x0 r0 W3 (unhide R3))
      clear R3
      go_wp2_with fail
      refine (unhide C2).mono ?_
      rintro e w10 ⟨rfl, hr, hw⟩
      have K10 := hide ((hw.block A2 (by have := unhide hlt; have := unhide hab; omega) (al_lt (unhide K3))).trans (unhide K3))
      have KW10 := hide ((hw.block _ (by have := unhide hlt; omega) (al_lt (unhide KW3))).trans (unhide KW3))
      have HW10 := hide ((unhide HW3).trans hw)
      have R10 := hide hr
      clear C2 hr hw K3 KW3 HW3
      have c0 := heap_at (unhide K10) 6
      have run0 := run_storeS c0.1 c0.2 x0
      have K20 := hide (show (w10.setCell ⟨A2, 6, none⟩ (.string x0)).heap[A2]? = some (.cells #[.int .i64 d1, .int .i64 d2, .int .i64 d3, .int .i64 d4, .string d5, .string d6, .string x0, .slice none 0 0] 26 (0, 0)) from heap_set (unhide K10) 6 _)
      have KW20 := hide (show (w10.setCell ⟨A2, 6, none⟩ (.string x0)).heap[w.heap.size]? = _ from (Below.heap_setCell _ _ _ _ (by show w.heap.size ≠ A2; have := unhide hab; omega)).trans (unhide KW10))
      have HW20 := hide (show Wrote R w (w10.setCell ⟨A2, 6, none⟩ (.string x0)) from wrote_cell (unhide HW10) (by have := unhide hab; omega))
      have R20 := hide (show RdW (w10.setCell ⟨A2, 6, none⟩ (.string x0)) R _ from rd_cell (unhide R10) (by have := unhide hlt; have := unhide hab; omega))
      clear K10 KW10 HW10 R10 c0
      go_upto_region 3 with (first | (refine al_wpStore rfl (.tmp 9) (.tmp 7) 9 rfl _ _ _ (by simp [Act.eval]) (by simp [Act.eval]) run0 ?_))
      clear run0
      generalize w10.setCell ⟨A2, 6, none⟩ (.string x0) = W20 at *
      have z0 := (heap_at (unhide K20) 0).1
      have z1 := (heap_at (unhide K20) 1).1
      have z2 := (heap_at (unhide K20) 2).1
      have z3 := (heap_at (unhide K20) 3).1
      have z4 := (heap_at (unhide K20) 4).1
      have z5 := (heap_at (unhide K20) 5).1
      have z6 := (heap_at (unhide K20) 6).1
      have z7 := (heap_at (unhide K20) 7).1
      have run := run_storeAl (unhide KW20) ⟨d1, d2, d3, d4, d5, d6, x0, []⟩ none 0 0
      have kk := hide (sv8_heap (unhide KW20) (.int .i64 d1) (.int .i64 d2) (.int .i64 d3) (.int .i64 d4) (.string d5) (.string d6) (.string x0) (.slice none 0 0))
      have RES := hide (show TxR R (putI L) w (.returned (.agg #[.int .i64 d1, .int .i64 d2, .int .i64 d3, .int .i64 d4, .string d5, .string d6, .string x0, .slice none 0 0])) (sv8 W20 w.heap.size (.int .i64 d1) (.int .i64 d2) (.int .i64 d3) (.int .i64 d4) (.string d5) (.string d6) (.string x0) (.slice none 0 0)) from ⟨wrote_sv8 (unhide HW20) (Nat.le_refl _) (.int .i64 d1) (.int .i64 d2) (.int .i64 d3) (.int .i64 d4) (.string d5) (.string d6) (.string x0) (.slice none 0 0), .inl ⟨⟨d1, d2, d3, d4, d5, d6, x0, []⟩, r0, by unfold putI; rw [unhide HV], rfl, rfl, rd_sv8 (unhide R20) (unhide hlt) (.int .i64 d1) (.int .i64 d2) (.int .i64 d3) (.int .i64 d4) (.string d5) (.string d6) (.string x0) (.slice none 0 0)⟩⟩)
      unfold sv8d at run
      simp only at run
      clear K20 KW20 HW20 R20
      go_wp2_with (first | (refine al_wpStore rfl (.tmp 2) (.tmp 10) 26 rfl _ _ _ (by simp [Act.eval]) (by simp [Act.eval]) run ?_))
      generalize sv8 _ w.heap.size (.int .i64 d1) (.int .i64 d2) (.int .i64 d3) (.int .i64 d4) (.string d5) (.string d6) (.string x0) (.slice none 0 0) = u at *
      have y0 := (heap_at (unhide kk) 0).1
      have y1 := (heap_at (unhide kk) 1).1
      have y2 := (heap_at (unhide kk) 2).1
      have y3 := (heap_at (unhide kk) 3).1
      have y4 := (heap_at (unhide kk) 4).1
      have y5 := (heap_at (unhide kk) 5).1
      have y6 := (heap_at (unhide kk) 6).1
      have y7 := (heap_at (unhide kk) 7).1
      clear run kk
      go_wp2_with fail
      refine bodyPost_ret (v := .agg #[.int .i64 d1, .int .i64 d2, .int .i64 d3, .int .i64 d4, .string d5, .string d6, .string x0, .slice none 0 0]) (by simp [results, Tryd.results35, go_sem, y0, y1, y2, y3, y4, y5, y6, y7]) rfl ?_
      exact unhide RES
  · have HN := hide (show putI L = none from by unfold putI; rw [hn])
    clear hn
    have RES := hide (show TxR R (putI L) w noE w2 from ⟨unhide HW2, .inr ⟨unhide HN, rfl⟩⟩)
    clear KW2 HW2 HN LW
    unfold noE
    go_wp2_with fail
    exact ⟨rfl, unhide RES⟩
set_option maxRecDepth 100000 in
set_option maxHeartbeats 4000000 in
theorem scan_any (R : Nat) (L : List ByteArray) (w : World) (h : RdW w R L) (hL : LibW w) (hR : 8 ≤ R) :
    Calls Tryd.prog 37 #[.pointer (some ⟨R, 0, none⟩)] w fun e w' => TxR R (scanI L) w e w' := by
  have hlt := hide h.lt
  obtain ⟨W, hW⟩ : ∃ W, W = w.alloc (.cells #[.int .i64 0, .int .i64 0, .int .i64 0, .int .i64 0, .string ⟨#[]⟩, .string ⟨#[]⟩, .string ⟨#[]⟩, .slice none 0 0] 26) := ⟨_, rfl⟩
  have bW : Below w.heap.size w W := by rw [hW]; exact (Below.refl _ _).alloc (Nat.le_refl _) _
  have kW : W.heap[w.heap.size]? = some (.cells #[.int .i64 0, .int .i64 0, .int .i64 0, .int .i64 0, .string ⟨#[]⟩, .string ⟨#[]⟩, .string ⟨#[]⟩, .slice none 0 0] 26 (0, 0)) := by rw [hW]; exact heap_alloc_new _ _
  have hLW := hL.wrote (R := R) (Wrote.of_below bW) hR (by have := h.lt; omega)
  have C := hide (tx_any R 3 L W (h.below bW) hLW hR)
  have BW := hide bW
  have KW := hide kW
  clear bW kW hLW h
  have LW := hide hL
  clear hL
  go_enter Tryd.func37, Tryd.ntmps37
  go_upto_region 1 with fail
  rw [← hW]
  clear hW
  go_wp2_with fail
  refine (unhide C).mono ?_
  rintro e w2 ⟨hw, hc⟩
  have KW2 := hide ((hw.block _ (by have := unhide hlt; omega) (al_lt (unhide KW))).trans (unhide KW))
  have HW2 := hide ((Wrote.of_below (unhide BW)).trans hw)
  clear KW BW C hw
  rcases hc with ⟨⟨d1, d2, d3, d4, d5, d6, d7, d8⟩, r, hv, h8, rfl, hr⟩ | ⟨hn, rfl⟩
  · simp only [alC]
    simp only at h8
    subst h8
    have HV := hide hv
    have HRR := hide hr
    clear hv hr
    obtain ⟨W3, hW3⟩ : ∃ W3, W3 = w2.alloc (.cells #[.int .i64 d1, .int .i64 d2, .int .i64 d3, .int .i64 d4, .string d5, .string d6, .string d7, .slice none 0 0] 26) := ⟨_, rfl⟩
    have b3 : Below w2.heap.size w2 W3 := by rw [hW3]; exact (Below.refl _ _).alloc (Nat.le_refl _) _
    have K3 := hide (show W3.heap[w2.heap.size]? = some (.cells #[.int .i64 d1, .int .i64 d2, .int .i64 d3, .int .i64 d4, .string d5, .string d6, .string d7, .slice none 0 0] 26 (0, 0)) from by rw [hW3]; exact heap_alloc_new _ _)
    have KW3 := hide ((b3.block _ (al_lt (unhide KW2))).trans (unhide KW2))
    have HW3 := hide ((unhide HW2).trans (Wrote.of_below b3))
    have R3 := hide ((unhide HRR).below b3)
    have hab := hide (show w.heap.size < w2.heap.size from al_lt (unhide KW2))
    clear KW2 HW2 HRR b3
    go_upto_region 2 with fail
    rw [← hW3]
    clear hW3
    generalize w2.heap.size = A2 at *
    have C2 := hide (any_any R r W3 (unhide R3))
    obtain ⟨x0, hx0⟩ : ∃ x0, x0 = (r).headD ⟨#[]⟩ := ⟨_, rfl⟩
    rw [← hx0] at C2
    have HX0 := hide hx0
    clear hx0
    clear R3
    go_wp2_with fail
    refine (unhide C2).mono ?_
    rintro e w10 ⟨rfl, hr, hw⟩
    have K10 := hide ((hw.block A2 (by have := unhide hlt; have := unhide hab; omega) (al_lt (unhide K3))).trans (unhide K3))
    have KW10 := hide ((hw.block _ (by have := unhide hlt; omega) (al_lt (unhide KW3))).trans (unhide KW3))
    have HW10 := hide ((unhide HW3).trans hw)
    have R10 := hide hr
    clear C2 hr hw K3 KW3 HW3
    have c0 := heap_at (unhide K10) 4
    have run0 := run_storeS c0.1 c0.2 x0
    have K20 := hide (show (w10.setCell ⟨A2, 4, none⟩ (.string x0)).heap[A2]? = some (.cells #[.int .i64 d1, .int .i64 d2, .int .i64 d3, .int .i64 d4, .string x0, .string d6, .string d7, .slice none 0 0] 26 (0, 0)) from heap_set (unhide K10) 4 _)
    have KW20 := hide (show (w10.setCell ⟨A2, 4, none⟩ (.string x0)).heap[w.heap.size]? = _ from (Below.heap_setCell _ _ _ _ (by show w.heap.size ≠ A2; have := unhide hab; omega)).trans (unhide KW10))
    have HW20 := hide (show Wrote R w (w10.setCell ⟨A2, 4, none⟩ (.string x0)) from wrote_cell (unhide HW10) (by have := unhide hab; omega))
    have R20 := hide (show RdW (w10.setCell ⟨A2, 4, none⟩ (.string x0)) R _ from rd_cell (unhide R10) (by have := unhide hlt; have := unhide hab; omega))
    clear K10 KW10 HW10 R10 c0
    go_upto_region 3 with (first | (refine al_wpStore rfl (.tmp 9) (.tmp 7) 9 rfl _ _ _ (by simp [Act.eval]) (by simp [Act.eval]) run0 ?_))
    clear run0
    generalize w10.setCell ⟨A2, 4, none⟩ (.string x0) = W20 at *
    have C2 := hide (any_any R r.tail W20 (unhide R20))
    obtain ⟨x1, hx1⟩ : ∃ x1, x1 = (r.tail).headD ⟨#[]⟩ := ⟨_, rfl⟩
    rw [← hx1] at C2
    have HX1 := hide hx1
    clear hx1
    clear R20
    go_wp2_with fail
    refine (unhide C2).mono ?_
    rintro e w11 ⟨rfl, hr, hw⟩
    have K11 := hide ((hw.block A2 (by have := unhide hlt; have := unhide hab; omega) (al_lt (unhide K20))).trans (unhide K20))
    have KW11 := hide ((hw.block _ (by have := unhide hlt; omega) (al_lt (unhide KW20))).trans (unhide KW20))
    have HW11 := hide ((unhide HW20).trans hw)
    have R11 := hide hr
    clear C2 hr hw K20 KW20 HW20
    have c1 := heap_at (unhide K11) 5
    have run1 := run_storeS c1.1 c1.2 x1
    have K21 := hide (show (w11.setCell ⟨A2, 5, none⟩ (.string x1)).heap[A2]? = some (.cells #[.int .i64 d1, .int .i64 d2, .int .i64 d3, .int .i64 d4, .string x0, .string x1, .string d7, .slice none 0 0] 26 (0, 0)) from heap_set (unhide K11) 5 _)
    have KW21 := hide (show (w11.setCell ⟨A2, 5, none⟩ (.string x1)).heap[w.heap.size]? = _ from (Below.heap_setCell _ _ _ _ (by show w.heap.size ≠ A2; have := unhide hab; omega)).trans (unhide KW11))
    have HW21 := hide (show Wrote R w (w11.setCell ⟨A2, 5, none⟩ (.string x1)) from wrote_cell (unhide HW11) (by have := unhide hab; omega))
    have R21 := hide (show RdW (w11.setCell ⟨A2, 5, none⟩ (.string x1)) R _ from rd_cell (unhide R11) (by have := unhide hlt; have := unhide hab; omega))
    clear K11 KW11 HW11 R11 c1
    go_upto_region 4 with (first | (refine al_wpStore rfl (.tmp 13) (.tmp 11) 9 rfl _ _ _ (by simp [Act.eval]) (by simp [Act.eval]) run1 ?_))
    clear run1
    generalize w11.setCell ⟨A2, 5, none⟩ (.string x1) = W21 at *
    have z0 := (heap_at (unhide K21) 0).1
    have z1 := (heap_at (unhide K21) 1).1
    have z2 := (heap_at (unhide K21) 2).1
    have z3 := (heap_at (unhide K21) 3).1
    have z4 := (heap_at (unhide K21) 4).1
    have z5 := (heap_at (unhide K21) 5).1
    have z6 := (heap_at (unhide K21) 6).1
    have z7 := (heap_at (unhide K21) 7).1
    have run := run_storeAl (unhide KW21) ⟨d1, d2, d3, d4, x0, x1, d7, []⟩ none 0 0
    have kk := hide (sv8_heap (unhide KW21) (.int .i64 d1) (.int .i64 d2) (.int .i64 d3) (.int .i64 d4) (.string x0) (.string x1) (.string d7) (.slice none 0 0))
    have RES := hide (show TxR R (scanI L) w (.returned (.agg #[.int .i64 d1, .int .i64 d2, .int .i64 d3, .int .i64 d4, .string x0, .string x1, .string d7, .slice none 0 0])) (sv8 W21 w.heap.size (.int .i64 d1) (.int .i64 d2) (.int .i64 d3) (.int .i64 d4) (.string x0) (.string x1) (.string d7) (.slice none 0 0)) from ⟨wrote_sv8 (unhide HW21) (Nat.le_refl _) (.int .i64 d1) (.int .i64 d2) (.int .i64 d3) (.int .i64 d4) (.string x0) (.string x1) (.string d7) (.slice none 0 0), .inl ⟨⟨d1, d2, d3, d4, x0, x1, d7, []⟩, r.tail.tail, by unfold scanI; rw [unhide HV]; simp only; rw [← unhide HX0, ← unhide HX1], rfl, rfl, rd_sv8 (unhide R21) (unhide hlt) (.int .i64 d1) (.int .i64 d2) (.int .i64 d3) (.int .i64 d4) (.string x0) (.string x1) (.string d7) (.slice none 0 0)⟩⟩)
    unfold sv8d at run
    simp only at run
    clear K21 KW21 HW21 R21
    go_wp2_with (first | (refine al_wpStore rfl (.tmp 2) (.tmp 14) 26 rfl _ _ _ (by simp [Act.eval]) (by simp [Act.eval]) run ?_))
    generalize sv8 _ w.heap.size (.int .i64 d1) (.int .i64 d2) (.int .i64 d3) (.int .i64 d4) (.string x0) (.string x1) (.string d7) (.slice none 0 0) = u at *
    have y0 := (heap_at (unhide kk) 0).1
    have y1 := (heap_at (unhide kk) 1).1
    have y2 := (heap_at (unhide kk) 2).1
    have y3 := (heap_at (unhide kk) 3).1
    have y4 := (heap_at (unhide kk) 4).1
    have y5 := (heap_at (unhide kk) 5).1
    have y6 := (heap_at (unhide kk) 6).1
    have y7 := (heap_at (unhide kk) 7).1
    clear run kk
    go_wp2_with fail
    refine bodyPost_ret (v := .agg #[.int .i64 d1, .int .i64 d2, .int .i64 d3, .int .i64 d4, .string x0, .string x1, .string d7, .slice none 0 0]) (by simp [results, Tryd.results37, go_sem, y0, y1, y2, y3, y4, y5, y6, y7]) rfl ?_
    exact unhide RES
  · have HN := hide (show scanI L = none from by unfold scanI; rw [hn])
    clear hn
    have RES := hide (show TxR R (scanI L) w noE w2 from ⟨unhide HW2, .inr ⟨unhide HN, rfl⟩⟩)
    clear KW2 HW2 HN LW
    unfold noE
    go_wp2_with fail
    exact ⟨rfl, unhide RES⟩
set_option maxRecDepth 100000 in
set_option maxHeartbeats 4000000 in
theorem begin_any (R : Nat) (L : List ByteArray) (w : World) (h : RdW w R L) (hL : LibW w) (hR : 8 ≤ R) :
    Calls Tryd.prog 31 #[.pointer (some ⟨R, 0, none⟩)] w fun e w' => TxR R (txI 1 L) w e w' := by
  have hlt := hide h.lt
  obtain ⟨W, hW⟩ : ∃ W, W = w.alloc (.cells #[.int .i64 0, .int .i64 0, .int .i64 0, .int .i64 0, .string ⟨#[]⟩, .string ⟨#[]⟩, .string ⟨#[]⟩, .slice none 0 0] 26) := ⟨_, rfl⟩
  have bW : Below w.heap.size w W := by rw [hW]; exact (Below.refl _ _).alloc (Nat.le_refl _) _
  have kW : W.heap[w.heap.size]? = some (.cells #[.int .i64 0, .int .i64 0, .int .i64 0, .int .i64 0, .string ⟨#[]⟩, .string ⟨#[]⟩, .string ⟨#[]⟩, .slice none 0 0] 26 (0, 0)) := by rw [hW]; exact heap_alloc_new _ _
  have hLW := hL.wrote (R := R) (Wrote.of_below bW) hR (by have := h.lt; omega)
  have C := hide (tx_any R 1 L W (h.below bW) hLW hR)
  have BW := hide bW
  have KW := hide kW
  clear bW kW hLW h hL
  go_enter Tryd.func31, Tryd.ntmps31
  go_upto_region 1 with fail
  rw [← hW]
  clear hW
  go_wp2_with fail
  refine (unhide C).mono ?_
  rintro e w2 ⟨hw, hc⟩
  have KW2 := hide ((hw.block _ (by have := unhide hlt; omega) (al_lt (unhide KW))).trans (unhide KW))
  have HW2 := hide ((Wrote.of_below (unhide BW)).trans hw)
  clear KW BW C hw
  rcases hc with ⟨⟨d1, d2, d3, d4, d5, d6, d7, d8⟩, r, hv, h8, rfl, hr⟩ | ⟨hn, rfl⟩
  · simp only [alC]
    simp only at h8
    subst h8
    have HV := hide hv
    have HRR := hide hr
    clear hv hr
    have run := run_storeAl (unhide KW2) ⟨d1, d2, d3, d4, d5, d6, d7, []⟩ none 0 0
    have kk := hide (sv8_heap (unhide KW2) (.int .i64 d1) (.int .i64 d2) (.int .i64 d3) (.int .i64 d4) (.string d5) (.string d6) (.string d7) (.slice none 0 0))
    have RES := hide (show TxR R (txI 1 L) w (.returned (.agg #[.int .i64 d1, .int .i64 d2, .int .i64 d3, .int .i64 d4, .string d5, .string d6, .string d7, .slice none 0 0])) (sv8 w2 w.heap.size (.int .i64 d1) (.int .i64 d2) (.int .i64 d3) (.int .i64 d4) (.string d5) (.string d6) (.string d7) (.slice none 0 0)) from ⟨wrote_sv8 (unhide HW2) (Nat.le_refl _) (.int .i64 d1) (.int .i64 d2) (.int .i64 d3) (.int .i64 d4) (.string d5) (.string d6) (.string d7) (.slice none 0 0), .inl ⟨⟨d1, d2, d3, d4, d5, d6, d7, []⟩, r, unhide HV, rfl, rfl, rd_sv8 (unhide HRR) (unhide hlt) (.int .i64 d1) (.int .i64 d2) (.int .i64 d3) (.int .i64 d4) (.string d5) (.string d6) (.string d7) (.slice none 0 0)⟩⟩)
    unfold sv8d at run
    simp only at run
    clear HV HRR KW2 HW2
    go_wp2_with (first | (refine al_wpStore rfl (.tmp 2) (.tmp 4) 26 rfl _ _ _ (by simp [Act.eval]) (by simp [Act.eval]) run ?_))
    generalize sv8 _ w.heap.size (.int .i64 d1) (.int .i64 d2) (.int .i64 d3) (.int .i64 d4) (.string d5) (.string d6) (.string d7) (.slice none 0 0) = u at *
    have y0 := (heap_at (unhide kk) 0).1
    have y1 := (heap_at (unhide kk) 1).1
    have y2 := (heap_at (unhide kk) 2).1
    have y3 := (heap_at (unhide kk) 3).1
    have y4 := (heap_at (unhide kk) 4).1
    have y5 := (heap_at (unhide kk) 5).1
    have y6 := (heap_at (unhide kk) 6).1
    have y7 := (heap_at (unhide kk) 7).1
    clear run kk
    go_wp2_with fail
    refine bodyPost_ret (v := .agg #[.int .i64 d1, .int .i64 d2, .int .i64 d3, .int .i64 d4, .string d5, .string d6, .string d7, .slice none 0 0]) (by simp [results, Tryd.results31, go_sem, y0, y1, y2, y3, y4, y5, y6, y7]) rfl ?_
    exact unhide RES
  · have HN := hide hn
    clear hn
    have RES := hide (show TxR R (txI 1 L) w noE w2 from ⟨unhide HW2, .inr ⟨unhide HN, rfl⟩⟩)
    clear KW2 HW2 HN
    unfold noE
    go_wp2_with fail
    exact ⟨rfl, unhide RES⟩
set_option maxRecDepth 100000 in
set_option maxHeartbeats 4000000 in
theorem commit_any (R : Nat) (L : List ByteArray) (w : World) (h : RdW w R L) (hL : LibW w) (hR : 8 ≤ R) :
    Calls Tryd.prog 32 #[.pointer (some ⟨R, 0, none⟩)] w fun e w' => TxR R (txI 6 L) w e w' := by
  have hlt := hide h.lt
  obtain ⟨W, hW⟩ : ∃ W, W = w.alloc (.cells #[.int .i64 0, .int .i64 0, .int .i64 0, .int .i64 0, .string ⟨#[]⟩, .string ⟨#[]⟩, .string ⟨#[]⟩, .slice none 0 0] 26) := ⟨_, rfl⟩
  have bW : Below w.heap.size w W := by rw [hW]; exact (Below.refl _ _).alloc (Nat.le_refl _) _
  have kW : W.heap[w.heap.size]? = some (.cells #[.int .i64 0, .int .i64 0, .int .i64 0, .int .i64 0, .string ⟨#[]⟩, .string ⟨#[]⟩, .string ⟨#[]⟩, .slice none 0 0] 26 (0, 0)) := by rw [hW]; exact heap_alloc_new _ _
  have hLW := hL.wrote (R := R) (Wrote.of_below bW) hR (by have := h.lt; omega)
  have C := hide (tx_any R 6 L W (h.below bW) hLW hR)
  have BW := hide bW
  have KW := hide kW
  clear bW kW hLW h hL
  go_enter Tryd.func32, Tryd.ntmps32
  go_upto_region 1 with fail
  rw [← hW]
  clear hW
  go_wp2_with fail
  refine (unhide C).mono ?_
  rintro e w2 ⟨hw, hc⟩
  have KW2 := hide ((hw.block _ (by have := unhide hlt; omega) (al_lt (unhide KW))).trans (unhide KW))
  have HW2 := hide ((Wrote.of_below (unhide BW)).trans hw)
  clear KW BW C hw
  rcases hc with ⟨⟨d1, d2, d3, d4, d5, d6, d7, d8⟩, r, hv, h8, rfl, hr⟩ | ⟨hn, rfl⟩
  · simp only [alC]
    simp only at h8
    subst h8
    have HV := hide hv
    have HRR := hide hr
    clear hv hr
    have run := run_storeAl (unhide KW2) ⟨d1, d2, d3, d4, d5, d6, d7, []⟩ none 0 0
    have kk := hide (sv8_heap (unhide KW2) (.int .i64 d1) (.int .i64 d2) (.int .i64 d3) (.int .i64 d4) (.string d5) (.string d6) (.string d7) (.slice none 0 0))
    have RES := hide (show TxR R (txI 6 L) w (.returned (.agg #[.int .i64 d1, .int .i64 d2, .int .i64 d3, .int .i64 d4, .string d5, .string d6, .string d7, .slice none 0 0])) (sv8 w2 w.heap.size (.int .i64 d1) (.int .i64 d2) (.int .i64 d3) (.int .i64 d4) (.string d5) (.string d6) (.string d7) (.slice none 0 0)) from ⟨wrote_sv8 (unhide HW2) (Nat.le_refl _) (.int .i64 d1) (.int .i64 d2) (.int .i64 d3) (.int .i64 d4) (.string d5) (.string d6) (.string d7) (.slice none 0 0), .inl ⟨⟨d1, d2, d3, d4, d5, d6, d7, []⟩, r, unhide HV, rfl, rfl, rd_sv8 (unhide HRR) (unhide hlt) (.int .i64 d1) (.int .i64 d2) (.int .i64 d3) (.int .i64 d4) (.string d5) (.string d6) (.string d7) (.slice none 0 0)⟩⟩)
    unfold sv8d at run
    simp only at run
    clear HV HRR KW2 HW2
    go_wp2_with (first | (refine al_wpStore rfl (.tmp 2) (.tmp 4) 26 rfl _ _ _ (by simp [Act.eval]) (by simp [Act.eval]) run ?_))
    generalize sv8 _ w.heap.size (.int .i64 d1) (.int .i64 d2) (.int .i64 d3) (.int .i64 d4) (.string d5) (.string d6) (.string d7) (.slice none 0 0) = u at *
    have y0 := (heap_at (unhide kk) 0).1
    have y1 := (heap_at (unhide kk) 1).1
    have y2 := (heap_at (unhide kk) 2).1
    have y3 := (heap_at (unhide kk) 3).1
    have y4 := (heap_at (unhide kk) 4).1
    have y5 := (heap_at (unhide kk) 5).1
    have y6 := (heap_at (unhide kk) 6).1
    have y7 := (heap_at (unhide kk) 7).1
    clear run kk
    go_wp2_with fail
    refine bodyPost_ret (v := .agg #[.int .i64 d1, .int .i64 d2, .int .i64 d3, .int .i64 d4, .string d5, .string d6, .string d7, .slice none 0 0]) (by simp [results, Tryd.results32, go_sem, y0, y1, y2, y3, y4, y5, y6, y7]) rfl ?_
    exact unhide RES
  · have HN := hide hn
    clear hn
    have RES := hide (show TxR R (txI 6 L) w noE w2 from ⟨unhide HW2, .inr ⟨unhide HN, rfl⟩⟩)
    clear KW2 HW2 HN
    unfold noE
    go_wp2_with fail
    exact ⟨rfl, unhide RES⟩
set_option maxRecDepth 100000 in
set_option maxHeartbeats 4000000 in
theorem abort_any (R : Nat) (L : List ByteArray) (w : World) (h : RdW w R L) (hL : LibW w) (hR : 8 ≤ R) :
    Calls Tryd.prog 33 #[.pointer (some ⟨R, 0, none⟩)] w fun e w' => TxR R (txI 7 L) w e w' := by
  have hlt := hide h.lt
  obtain ⟨W, hW⟩ : ∃ W, W = w.alloc (.cells #[.int .i64 0, .int .i64 0, .int .i64 0, .int .i64 0, .string ⟨#[]⟩, .string ⟨#[]⟩, .string ⟨#[]⟩, .slice none 0 0] 26) := ⟨_, rfl⟩
  have bW : Below w.heap.size w W := by rw [hW]; exact (Below.refl _ _).alloc (Nat.le_refl _) _
  have kW : W.heap[w.heap.size]? = some (.cells #[.int .i64 0, .int .i64 0, .int .i64 0, .int .i64 0, .string ⟨#[]⟩, .string ⟨#[]⟩, .string ⟨#[]⟩, .slice none 0 0] 26 (0, 0)) := by rw [hW]; exact heap_alloc_new _ _
  have hLW := hL.wrote (R := R) (Wrote.of_below bW) hR (by have := h.lt; omega)
  have C := hide (tx_any R 7 L W (h.below bW) hLW hR)
  have BW := hide bW
  have KW := hide kW
  clear bW kW hLW h hL
  go_enter Tryd.func33, Tryd.ntmps33
  go_upto_region 1 with fail
  rw [← hW]
  clear hW
  go_wp2_with fail
  refine (unhide C).mono ?_
  rintro e w2 ⟨hw, hc⟩
  have KW2 := hide ((hw.block _ (by have := unhide hlt; omega) (al_lt (unhide KW))).trans (unhide KW))
  have HW2 := hide ((Wrote.of_below (unhide BW)).trans hw)
  clear KW BW C hw
  rcases hc with ⟨⟨d1, d2, d3, d4, d5, d6, d7, d8⟩, r, hv, h8, rfl, hr⟩ | ⟨hn, rfl⟩
  · simp only [alC]
    simp only at h8
    subst h8
    have HV := hide hv
    have HRR := hide hr
    clear hv hr
    have run := run_storeAl (unhide KW2) ⟨d1, d2, d3, d4, d5, d6, d7, []⟩ none 0 0
    have kk := hide (sv8_heap (unhide KW2) (.int .i64 d1) (.int .i64 d2) (.int .i64 d3) (.int .i64 d4) (.string d5) (.string d6) (.string d7) (.slice none 0 0))
    have RES := hide (show TxR R (txI 7 L) w (.returned (.agg #[.int .i64 d1, .int .i64 d2, .int .i64 d3, .int .i64 d4, .string d5, .string d6, .string d7, .slice none 0 0])) (sv8 w2 w.heap.size (.int .i64 d1) (.int .i64 d2) (.int .i64 d3) (.int .i64 d4) (.string d5) (.string d6) (.string d7) (.slice none 0 0)) from ⟨wrote_sv8 (unhide HW2) (Nat.le_refl _) (.int .i64 d1) (.int .i64 d2) (.int .i64 d3) (.int .i64 d4) (.string d5) (.string d6) (.string d7) (.slice none 0 0), .inl ⟨⟨d1, d2, d3, d4, d5, d6, d7, []⟩, r, unhide HV, rfl, rfl, rd_sv8 (unhide HRR) (unhide hlt) (.int .i64 d1) (.int .i64 d2) (.int .i64 d3) (.int .i64 d4) (.string d5) (.string d6) (.string d7) (.slice none 0 0)⟩⟩)
    unfold sv8d at run
    simp only at run
    clear HV HRR KW2 HW2
    go_wp2_with (first | (refine al_wpStore rfl (.tmp 2) (.tmp 4) 26 rfl _ _ _ (by simp [Act.eval]) (by simp [Act.eval]) run ?_))
    generalize sv8 _ w.heap.size (.int .i64 d1) (.int .i64 d2) (.int .i64 d3) (.int .i64 d4) (.string d5) (.string d6) (.string d7) (.slice none 0 0) = u at *
    have y0 := (heap_at (unhide kk) 0).1
    have y1 := (heap_at (unhide kk) 1).1
    have y2 := (heap_at (unhide kk) 2).1
    have y3 := (heap_at (unhide kk) 3).1
    have y4 := (heap_at (unhide kk) 4).1
    have y5 := (heap_at (unhide kk) 5).1
    have y6 := (heap_at (unhide kk) 6).1
    have y7 := (heap_at (unhide kk) 7).1
    clear run kk
    go_wp2_with fail
    refine bodyPost_ret (v := .agg #[.int .i64 d1, .int .i64 d2, .int .i64 d3, .int .i64 d4, .string d5, .string d6, .string d7, .slice none 0 0]) (by simp [results, Tryd.results33, go_sem, y0, y1, y2, y3, y4, y5, y6, y7]) rfl ?_
    exact unhide RES
  · have HN := hide hn
    clear hn
    have RES := hide (show TxR R (txI 7 L) w noE w2 from ⟨unhide HW2, .inr ⟨unhide HN, rfl⟩⟩)
    clear KW2 HW2 HN
    unfold noE
    go_wp2_with fail
    exact ⟨rfl, unhide RES⟩
set_option maxRecDepth 100000 in
set_option maxHeartbeats 4000000 in
theorem get_any (R : Nat) (L : List ByteArray) (w : World) (h : RdW w R L) (hL : LibW w) (hR : 8 ≤ R) :
    Calls Tryd.prog 34 #[.pointer (some ⟨R, 0, none⟩)] w fun e w' => TxR R (keyI 2 L) w e w' := by
  have hlt := hide h.lt
  obtain ⟨W, hW⟩ : ∃ W, W = w.alloc (.cells #[.int .i64 0, .int .i64 0, .int .i64 0, .int .i64 0, .string ⟨#[]⟩, .string ⟨#[]⟩, .string ⟨#[]⟩, .slice none 0 0] 26) := ⟨_, rfl⟩
  have bW : Below w.heap.size w W := by rw [hW]; exact (Below.refl _ _).alloc (Nat.le_refl _) _
  have kW : W.heap[w.heap.size]? = some (.cells #[.int .i64 0, .int .i64 0, .int .i64 0, .int .i64 0, .string ⟨#[]⟩, .string ⟨#[]⟩, .string ⟨#[]⟩, .slice none 0 0] 26 (0, 0)) := by rw [hW]; exact heap_alloc_new _ _
  have hLW := hL.wrote (R := R) (Wrote.of_below bW) hR (by have := h.lt; omega)
  have C := hide (keyed_any R 2 L W (h.below bW) hLW hR)
  have BW := hide bW
  have KW := hide kW
  clear bW kW hLW h hL
  go_enter Tryd.func34, Tryd.ntmps34
  go_upto_region 1 with fail
  rw [← hW]
  clear hW
  go_wp2_with fail
  refine (unhide C).mono ?_
  rintro e w2 ⟨hw, hc⟩
  have KW2 := hide ((hw.block _ (by have := unhide hlt; omega) (al_lt (unhide KW))).trans (unhide KW))
  have HW2 := hide ((Wrote.of_below (unhide BW)).trans hw)
  clear KW BW C hw
  rcases hc with ⟨⟨d1, d2, d3, d4, d5, d6, d7, d8⟩, r, hv, h8, rfl, hr⟩ | ⟨hn, rfl⟩
  · simp only [alC]
    simp only at h8
    subst h8
    have HV := hide hv
    have HRR := hide hr
    clear hv hr
    have run := run_storeAl (unhide KW2) ⟨d1, d2, d3, d4, d5, d6, d7, []⟩ none 0 0
    have kk := hide (sv8_heap (unhide KW2) (.int .i64 d1) (.int .i64 d2) (.int .i64 d3) (.int .i64 d4) (.string d5) (.string d6) (.string d7) (.slice none 0 0))
    have RES := hide (show TxR R (keyI 2 L) w (.returned (.agg #[.int .i64 d1, .int .i64 d2, .int .i64 d3, .int .i64 d4, .string d5, .string d6, .string d7, .slice none 0 0])) (sv8 w2 w.heap.size (.int .i64 d1) (.int .i64 d2) (.int .i64 d3) (.int .i64 d4) (.string d5) (.string d6) (.string d7) (.slice none 0 0)) from ⟨wrote_sv8 (unhide HW2) (Nat.le_refl _) (.int .i64 d1) (.int .i64 d2) (.int .i64 d3) (.int .i64 d4) (.string d5) (.string d6) (.string d7) (.slice none 0 0), .inl ⟨⟨d1, d2, d3, d4, d5, d6, d7, []⟩, r, unhide HV, rfl, rfl, rd_sv8 (unhide HRR) (unhide hlt) (.int .i64 d1) (.int .i64 d2) (.int .i64 d3) (.int .i64 d4) (.string d5) (.string d6) (.string d7) (.slice none 0 0)⟩⟩)
    unfold sv8d at run
    simp only at run
    clear HV HRR KW2 HW2
    go_wp2_with (first | (refine al_wpStore rfl (.tmp 2) (.tmp 4) 26 rfl _ _ _ (by simp [Act.eval]) (by simp [Act.eval]) run ?_))
    generalize sv8 _ w.heap.size (.int .i64 d1) (.int .i64 d2) (.int .i64 d3) (.int .i64 d4) (.string d5) (.string d6) (.string d7) (.slice none 0 0) = u at *
    have y0 := (heap_at (unhide kk) 0).1
    have y1 := (heap_at (unhide kk) 1).1
    have y2 := (heap_at (unhide kk) 2).1
    have y3 := (heap_at (unhide kk) 3).1
    have y4 := (heap_at (unhide kk) 4).1
    have y5 := (heap_at (unhide kk) 5).1
    have y6 := (heap_at (unhide kk) 6).1
    have y7 := (heap_at (unhide kk) 7).1
    clear run kk
    go_wp2_with fail
    refine bodyPost_ret (v := .agg #[.int .i64 d1, .int .i64 d2, .int .i64 d3, .int .i64 d4, .string d5, .string d6, .string d7, .slice none 0 0]) (by simp [results, Tryd.results34, go_sem, y0, y1, y2, y3, y4, y5, y6, y7]) rfl ?_
    exact unhide RES
  · have HN := hide hn
    clear hn
    have RES := hide (show TxR R (keyI 2 L) w noE w2 from ⟨unhide HW2, .inr ⟨unhide HN, rfl⟩⟩)
    clear KW2 HW2 HN
    unfold noE
    go_wp2_with fail
    exact ⟨rfl, unhide RES⟩
set_option maxRecDepth 100000 in
set_option maxHeartbeats 4000000 in
theorem drop_any (R : Nat) (L : List ByteArray) (w : World) (h : RdW w R L) (hL : LibW w) (hR : 8 ≤ R) :
    Calls Tryd.prog 36 #[.pointer (some ⟨R, 0, none⟩)] w fun e w' => TxR R (keyI 5 L) w e w' := by
  have hlt := hide h.lt
  obtain ⟨W, hW⟩ : ∃ W, W = w.alloc (.cells #[.int .i64 0, .int .i64 0, .int .i64 0, .int .i64 0, .string ⟨#[]⟩, .string ⟨#[]⟩, .string ⟨#[]⟩, .slice none 0 0] 26) := ⟨_, rfl⟩
  have bW : Below w.heap.size w W := by rw [hW]; exact (Below.refl _ _).alloc (Nat.le_refl _) _
  have kW : W.heap[w.heap.size]? = some (.cells #[.int .i64 0, .int .i64 0, .int .i64 0, .int .i64 0, .string ⟨#[]⟩, .string ⟨#[]⟩, .string ⟨#[]⟩, .slice none 0 0] 26 (0, 0)) := by rw [hW]; exact heap_alloc_new _ _
  have hLW := hL.wrote (R := R) (Wrote.of_below bW) hR (by have := h.lt; omega)
  have C := hide (keyed_any R 5 L W (h.below bW) hLW hR)
  have BW := hide bW
  have KW := hide kW
  clear bW kW hLW h hL
  go_enter Tryd.func36, Tryd.ntmps36
  go_upto_region 1 with fail
  rw [← hW]
  clear hW
  go_wp2_with fail
  refine (unhide C).mono ?_
  rintro e w2 ⟨hw, hc⟩
  have KW2 := hide ((hw.block _ (by have := unhide hlt; omega) (al_lt (unhide KW))).trans (unhide KW))
  have HW2 := hide ((Wrote.of_below (unhide BW)).trans hw)
  clear KW BW C hw
  rcases hc with ⟨⟨d1, d2, d3, d4, d5, d6, d7, d8⟩, r, hv, h8, rfl, hr⟩ | ⟨hn, rfl⟩
  · simp only [alC]
    simp only at h8
    subst h8
    have HV := hide hv
    have HRR := hide hr
    clear hv hr
    have run := run_storeAl (unhide KW2) ⟨d1, d2, d3, d4, d5, d6, d7, []⟩ none 0 0
    have kk := hide (sv8_heap (unhide KW2) (.int .i64 d1) (.int .i64 d2) (.int .i64 d3) (.int .i64 d4) (.string d5) (.string d6) (.string d7) (.slice none 0 0))
    have RES := hide (show TxR R (keyI 5 L) w (.returned (.agg #[.int .i64 d1, .int .i64 d2, .int .i64 d3, .int .i64 d4, .string d5, .string d6, .string d7, .slice none 0 0])) (sv8 w2 w.heap.size (.int .i64 d1) (.int .i64 d2) (.int .i64 d3) (.int .i64 d4) (.string d5) (.string d6) (.string d7) (.slice none 0 0)) from ⟨wrote_sv8 (unhide HW2) (Nat.le_refl _) (.int .i64 d1) (.int .i64 d2) (.int .i64 d3) (.int .i64 d4) (.string d5) (.string d6) (.string d7) (.slice none 0 0), .inl ⟨⟨d1, d2, d3, d4, d5, d6, d7, []⟩, r, unhide HV, rfl, rfl, rd_sv8 (unhide HRR) (unhide hlt) (.int .i64 d1) (.int .i64 d2) (.int .i64 d3) (.int .i64 d4) (.string d5) (.string d6) (.string d7) (.slice none 0 0)⟩⟩)
    unfold sv8d at run
    simp only at run
    clear HV HRR KW2 HW2
    go_wp2_with (first | (refine al_wpStore rfl (.tmp 2) (.tmp 4) 26 rfl _ _ _ (by simp [Act.eval]) (by simp [Act.eval]) run ?_))
    generalize sv8 _ w.heap.size (.int .i64 d1) (.int .i64 d2) (.int .i64 d3) (.int .i64 d4) (.string d5) (.string d6) (.string d7) (.slice none 0 0) = u at *
    have y0 := (heap_at (unhide kk) 0).1
    have y1 := (heap_at (unhide kk) 1).1
    have y2 := (heap_at (unhide kk) 2).1
    have y3 := (heap_at (unhide kk) 3).1
    have y4 := (heap_at (unhide kk) 4).1
    have y5 := (heap_at (unhide kk) 5).1
    have y6 := (heap_at (unhide kk) 6).1
    have y7 := (heap_at (unhide kk) 7).1
    clear run kk
    go_wp2_with fail
    refine bodyPost_ret (v := .agg #[.int .i64 d1, .int .i64 d2, .int .i64 d3, .int .i64 d4, .string d5, .string d6, .string d7, .slice none 0 0]) (by simp [results, Tryd.results36, go_sem, y0, y1, y2, y3, y4, y5, y6, y7]) rfl ?_
    exact unhide RES
  · have HN := hide hn
    clear hn
    have RES := hide (show TxR R (keyI 5 L) w noE w2 from ⟨unhide HW2, .inr ⟨unhide HN, rfl⟩⟩)
    clear KW2 HW2 HN
    unfold noE
    go_wp2_with fail
    exact ⟨rfl, unhide RES⟩
end Go.Proofs.YtmogcfiioajaeaaDoor
