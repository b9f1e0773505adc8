/-
  The reader's acts: a crash; those without words.
-/
import Derived.Test.YtmogcfiioajaeaaDoorAlM
namespace Go.Proofs.YtmogcfiioajaeaaDoor
open Go.RowKit

/-- What the reading of an act comes to. -/
def ActR (R : Nat) (o : Option (AlD × List ByteArray)) (w : World) (e : Ending) (w' : World) : Prop :=
  Wrote R w w' ∧ ((∃ d r a m c, o = some (d, r) ∧ e = .returned (.agg (alC d (.slice a m c))) ∧ KeepOwns w' w.heap.size (.slice a m c) d.keep ∧ RdW w' R r) ∨ (o = none ∧ e = noE))
theorem TxR.act {R : Nat} {o : Option (AlD × List ByteArray)} {w w' : World} {e : Ending} (h : TxR R o w e w') : ActR R o w e w' := by
  obtain ⟨hw, ⟨d, r, ho, hk, he, hr⟩ | h⟩ := h
  · exact ⟨hw, .inl ⟨d, r, none, 0, 0, ho, he, by rw [hk]; exact keep_nil _ _, hr⟩⟩
  · exact ⟨hw, .inr h⟩
def crashI (L : List ByteArray) : Option (AlD × List ByteArray) := match L with
  | [] => none
  | k :: r => match numV k.data.toList with
    | none => none
    | some v => if okL (r.headD ⟨#[]⟩).data.toList = true then some (crA v (flL (r.headD ⟨#[]⟩).data.toList), r.tail) else none
theorem run_storeN {w : World} {b j : Nat} {u : Value} (c : w.cell? ⟨b, j, none⟩ = some u) (f : w.frozen? ⟨b, j, none⟩ = false) (x : Int) : (Instr.storeAt 3 (.pointer (some ⟨b, j, none⟩)) (.int .i64 x)).run Tryd.prog w = .ok () (w.setCell ⟨b, j, none⟩ (.int .i64 x)) := by
  go_simp
theorem run_storeL {w : World} {b j : Nat} {u : Value} (c : w.cell? ⟨b, j, none⟩ = some u) (f : w.frozen? ⟨b, j, none⟩ = false) (a : Option Addr) (m n : Nat) : (Instr.storeAt 24 (.pointer (some ⟨b, j, none⟩)) (.slice a m n)).run Tryd.prog w = .ok () (w.setCell ⟨b, j, none⟩ (.slice a m n)) := by
  go_simp
set_option maxHeartbeats 2000000 in
theorem sync_any (R : Nat) (L : List ByteArray) (w : World) (h : RdW w R L) :
    Calls Tryd.prog 38 #[.pointer (some ⟨R, 0, none⟩)] w fun e w' => TxR R (some (onA 2, L)) w e w' := by
  have hlt := hide h.lt
  obtain ⟨W, hW⟩ : ∃ W, W = w.alloc (.cells #[.int .i64 0, .int .i64 0, .int .i64 0, .int .i64 0, .string ⟨#[]⟩, .string ⟨#[]⟩, .string ⟨#[]⟩, .slice none 0 0] 26) := ⟨_, rfl⟩
  have bW : Below w.heap.size w W := by rw [hW]; exact (Below.refl _ _).alloc (Nat.le_refl _) _
  have kW : W.heap[w.heap.size]? = some (.cells #[.int .i64 0, .int .i64 0, .int .i64 0, .int .i64 0, .string ⟨#[]⟩, .string ⟨#[]⟩, .string ⟨#[]⟩, .slice none 0 0] 26 (0, 0)) := by rw [hW]; exact heap_alloc_new _ _
  have KW := hide kW
  have HRR := hide (h.below bW)
  have HW := hide (Wrote.of_below (g := R) bW)
  clear bW kW h
  go_enter Tryd.func38, Tryd.ntmps38
  go_upto_region 1 with fail
  rw [← hW]
  clear hW
  have run := run_storeAl (unhide KW) ⟨2, 0, 0, 0, ⟨#[]⟩, ⟨#[]⟩, ⟨#[]⟩, []⟩ none 0 0
  have kk := hide (sv8_heap (unhide KW) (.int .i64 2) (.int .i64 0) (.int .i64 0) (.int .i64 0) (.string ⟨#[]⟩) (.string ⟨#[]⟩) (.string ⟨#[]⟩) (.slice none 0 0))
  have RES := hide (show TxR R (some (onA 2, L)) w (.returned (.agg #[.int .i64 2, .int .i64 0, .int .i64 0, .int .i64 0, .string ⟨#[]⟩, .string ⟨#[]⟩, .string ⟨#[]⟩, .slice none 0 0])) (sv8 W w.heap.size (.int .i64 2) (.int .i64 0) (.int .i64 0) (.int .i64 0) (.string ⟨#[]⟩) (.string ⟨#[]⟩) (.string ⟨#[]⟩) (.slice none 0 0)) from ⟨wrote_sv8 (unhide HW) (Nat.le_refl _) (.int .i64 2) (.int .i64 0) (.int .i64 0) (.int .i64 0) (.string ⟨#[]⟩) (.string ⟨#[]⟩) (.string ⟨#[]⟩) (.slice none 0 0), .inl ⟨onA 2, L, rfl, rfl, rfl, rd_sv8 (unhide HRR) (unhide hlt) (.int .i64 2) (.int .i64 0) (.int .i64 0) (.int .i64 0) (.string ⟨#[]⟩) (.string ⟨#[]⟩) (.string ⟨#[]⟩) (.slice none 0 0)⟩⟩)
  unfold sv8d at run
  simp only at run
  clear KW HW HRR
  go_wp2_with (first | (refine al_wpStore rfl (.tmp 2) (.tmp 3) 26 rfl _ _ _ (by simp [Act.eval]) (by simp [Act.eval]) run ?_))
  generalize sv8 _ w.heap.size (.int .i64 2) (.int .i64 0) (.int .i64 0) (.int .i64 0) (.string ⟨#[]⟩) (.string ⟨#[]⟩) (.string ⟨#[]⟩) (.slice none 0 0) = u at *
  have y0 := (heap_at (unhide kk) 0).1
  have y1 := (heap_at (unhide kk) 1).1
  have y2 := (heap_at (unhide kk) 2).1
  have y3 := (heap_at (unhide kk) 3).1
  have y4 := (heap_at (unhide kk) 4).1
  have y5 := (heap_at (unhide kk) 5).1
  have y6 := (heap_at (unhide kk) 6).1
  have y7 := (heap_at (unhide kk) 7).1
  clear run kk
  go_wp2_with fail
  refine bodyPost_ret (v := .agg #[.int .i64 2, .int .i64 0, .int .i64 0, .int .i64 0, .string ⟨#[]⟩, .string ⟨#[]⟩, .string ⟨#[]⟩, .slice none 0 0]) (by simp [results, Tryd.results38, go_sem, y0, y1, y2, y3, y4, y5, y6, y7]) rfl ?_
  exact unhide RES
set_option maxHeartbeats 2000000 in
theorem clean_any (R : Nat) (L : List ByteArray) (w : World) (h : RdW w R L) :
    Calls Tryd.prog 39 #[.pointer (some ⟨R, 0, none⟩)] w fun e w' => TxR R (some (onA 4, L)) w e w' := by
  have hlt := hide h.lt
  obtain ⟨W, hW⟩ : ∃ W, W = w.alloc (.cells #[.int .i64 0, .int .i64 0, .int .i64 0, .int .i64 0, .string ⟨#[]⟩, .string ⟨#[]⟩, .string ⟨#[]⟩, .slice none 0 0] 26) := ⟨_, rfl⟩
  have bW : Below w.heap.size w W := by rw [hW]; exact (Below.refl _ _).alloc (Nat.le_refl _) _
  have kW : W.heap[w.heap.size]? = some (.cells #[.int .i64 0, .int .i64 0, .int .i64 0, .int .i64 0, .string ⟨#[]⟩, .string ⟨#[]⟩, .string ⟨#[]⟩, .slice none 0 0] 26 (0, 0)) := by rw [hW]; exact heap_alloc_new _ _
  have KW := hide kW
  have HRR := hide (h.below bW)
  have HW := hide (Wrote.of_below (g := R) bW)
  clear bW kW h
  go_enter Tryd.func39, Tryd.ntmps39
  go_upto_region 1 with fail
  rw [← hW]
  clear hW
  have run := run_storeAl (unhide KW) ⟨4, 0, 0, 0, ⟨#[]⟩, ⟨#[]⟩, ⟨#[]⟩, []⟩ none 0 0
  have kk := hide (sv8_heap (unhide KW) (.int .i64 4) (.int .i64 0) (.int .i64 0) (.int .i64 0) (.string ⟨#[]⟩) (.string ⟨#[]⟩) (.string ⟨#[]⟩) (.slice none 0 0))
  have RES := hide (show TxR R (some (onA 4, L)) w (.returned (.agg #[.int .i64 4, .int .i64 0, .int .i64 0, .int .i64 0, .string ⟨#[]⟩, .string ⟨#[]⟩, .string ⟨#[]⟩, .slice none 0 0])) (sv8 W w.heap.size (.int .i64 4) (.int .i64 0) (.int .i64 0) (.int .i64 0) (.string ⟨#[]⟩) (.string ⟨#[]⟩) (.string ⟨#[]⟩) (.slice none 0 0)) from ⟨wrote_sv8 (unhide HW) (Nat.le_refl _) (.int .i64 4) (.int .i64 0) (.int .i64 0) (.int .i64 0) (.string ⟨#[]⟩) (.string ⟨#[]⟩) (.string ⟨#[]⟩) (.slice none 0 0), .inl ⟨onA 4, L, rfl, rfl, rfl, rd_sv8 (unhide HRR) (unhide hlt) (.int .i64 4) (.int .i64 0) (.int .i64 0) (.int .i64 0) (.string ⟨#[]⟩) (.string ⟨#[]⟩) (.string ⟨#[]⟩) (.slice none 0 0)⟩⟩)
  unfold sv8d at run
  simp only at run
  clear KW HW HRR
  go_wp2_with (first | (refine al_wpStore rfl (.tmp 2) (.tmp 3) 26 rfl _ _ _ (by simp [Act.eval]) (by simp [Act.eval]) run ?_))
  generalize sv8 _ w.heap.size (.int .i64 4) (.int .i64 0) (.int .i64 0) (.int .i64 0) (.string ⟨#[]⟩) (.string ⟨#[]⟩) (.string ⟨#[]⟩) (.slice none 0 0) = u at *
  have y0 := (heap_at (unhide kk) 0).1
  have y1 := (heap_at (unhide kk) 1).1
  have y2 := (heap_at (unhide kk) 2).1
  have y3 := (heap_at (unhide kk) 3).1
  have y4 := (heap_at (unhide kk) 4).1
  have y5 := (heap_at (unhide kk) 5).1
  have y6 := (heap_at (unhide kk) 6).1
  have y7 := (heap_at (unhide kk) 7).1
  clear run kk
  go_wp2_with fail
  refine bodyPost_ret (v := .agg #[.int .i64 4, .int .i64 0, .int .i64 0, .int .i64 0, .string ⟨#[]⟩, .string ⟨#[]⟩, .string ⟨#[]⟩, .slice none 0 0]) (by simp [results, Tryd.results39, go_sem, y0, y1, y2, y3, y4, y5, y6, y7]) rfl ?_
  exact unhide RES
set_option maxRecDepth 100000 in
set_option maxHeartbeats 4000000 in
theorem crash_any (R : Nat) (L : List ByteArray) (w : World) (h : RdW w R L) (hL : LibW w) (hR : 8 ≤ R) :
    Calls Tryd.prog 40 #[.pointer (some ⟨R, 0, none⟩)] w fun e w' => ActR R (crashI L) w e w' := by
  have hlt := hide h.lt
  obtain ⟨W, hW⟩ : ∃ W, W = w.alloc (.cells #[.int .i64 0, .int .i64 0, .int .i64 0, .int .i64 0, .string ⟨#[]⟩, .string ⟨#[]⟩, .string ⟨#[]⟩, .slice none 0 0] 26) := ⟨_, rfl⟩
  have bW : Below w.heap.size w W := by rw [hW]; exact (Below.refl _ _).alloc (Nat.le_refl _) _
  have kW : W.heap[w.heap.size]? = some (.cells #[.int .i64 0, .int .i64 0, .int .i64 0, .int .i64 0, .string ⟨#[]⟩, .string ⟨#[]⟩, .string ⟨#[]⟩, .slice none 0 0] 26 (0, 0)) := by rw [hW]; exact heap_alloc_new _ _
  obtain ⟨W3, hW3⟩ : ∃ W3, W3 = W.alloc (.cells #[.int .i64 3, .int .i64 0, .int .i64 0, .int .i64 0, .string ⟨#[]⟩, .string ⟨#[]⟩, .string ⟨#[]⟩, .slice none 0 0] 26) := ⟨_, rfl⟩
  have b3 : Below W.heap.size W W3 := by rw [hW3]; exact (Below.refl _ _).alloc (Nat.le_refl _) _
  have K3 := hide (show W3.heap[W.heap.size]? = some (.cells #[.int .i64 3, .int .i64 0, .int .i64 0, .int .i64 0, .string ⟨#[]⟩, .string ⟨#[]⟩, .string ⟨#[]⟩, .slice none 0 0] 26 (0, 0)) from by rw [hW3]; exact heap_alloc_new _ _)
  have KW3 := hide ((b3.block _ (al_lt kW)).trans kW)
  have b13 : Below w.heap.size w W3 := bW.trans (b3.mono bW.size)
  have HW3 := hide (Wrote.of_below (g := R) b13)
  have hab := hide (show w.heap.size < W.heap.size from al_lt kW)
  have C := hide (number_any R L W3 (h.below b13) (hL.wrote (R := R) (Wrote.of_below b13) hR (by have := h.lt; omega)) hR)
  clear bW kW b3 b13 h hL
  go_enter Tryd.func40, Tryd.ntmps40
  go_upto_region 1 with fail
  rw [← hW]
  clear hW
  go_upto_region 2 with fail
  rw [← hW3]
  clear hW3
  generalize W.heap.size = A2 at *
  go_wp2_with fail
  refine (unhide C).mono ?_
  rintro e w4 ⟨hw, hc⟩
  have K4 := hide ((hw.block A2 (by have := unhide hlt; have := unhide hab; omega) (al_lt (unhide K3))).trans (unhide K3))
  have KW4 := hide ((hw.block _ (by have := unhide hlt; omega) (al_lt (unhide KW3))).trans (unhide KW3))
  have HW4 := hide ((unhide HW3).trans hw)
  clear C hw K3 KW3 HW3
  rcases hc with ⟨k, r, v, rfl, hv, rfl, hr⟩ | ⟨rfl, hn⟩
  · have HV := hide hv
    have c1 := heap_at (unhide K4) 1
    have run1 := run_storeN c1.1 c1.2 v
    have K5 := hide (show (w4.setCell ⟨A2, 1, none⟩ (.int .i64 v)).heap[A2]? = some (.cells #[.int .i64 3, .int .i64 v, .int .i64 0, .int .i64 0, .string ⟨#[]⟩, .string ⟨#[]⟩, .string ⟨#[]⟩, .slice none 0 0] 26 (0, 0)) from heap_set (unhide K4) 1 _)
    have KW5 := hide (show (w4.setCell ⟨A2, 1, none⟩ (.int .i64 v)).heap[w.heap.size]? = _ from (Below.heap_setCell _ _ _ _ (by show w.heap.size ≠ A2; have := unhide hab; omega)).trans (unhide KW4))
    have HW5 := hide (show Wrote R w (w4.setCell ⟨A2, 1, none⟩ (.int .i64 v)) from wrote_cell (unhide HW4) (by have := unhide hab; omega))
    have R5 := hide (show RdW (w4.setCell ⟨A2, 1, none⟩ (.int .i64 v)) R r from rd_cell hr (by have := unhide hlt; have := unhide hab; omega))
    clear hv hr K4 KW4 HW4 c1
    go_upto_region 3 with (first | (refine al_wpStore rfl (.tmp 7) (.tmp 6) 3 rfl _ _ _ (by simp [Act.eval]) (by simp [Act.eval]) run1 ?_))
    clear run1
    generalize w4.setCell ⟨A2, 1, none⟩ (.int .i64 v) = W5 at *
    have C := hide (flags_any R r W5 (unhide R5))
    have hA2 := hide (show A2 < W5.heap.size from al_lt (unhide K5))
    clear R5
    go_wp2_with fail
    refine (unhide C).mono ?_
    rintro e w6 ⟨hw, hc⟩
    have K6 := hide ((hw.block A2 (by have := unhide hlt; have := unhide hab; omega) (al_lt (unhide K5))).trans (unhide K5))
    have KW6 := hide ((hw.block _ (by have := unhide hlt; omega) (al_lt (unhide KW5))).trans (unhide KW5))
    have HW6 := hide ((unhide HW5).trans hw)
    clear C hw K5 KW5 HW5
    rcases hc with ⟨hok, a, m, c, rfl, hko, hr⟩ | ⟨hok, rfl⟩
    · have HV2 := hide (show crashI (k :: r) = some (crA v (flL (r.headD ⟨#[]⟩).data.toList), r.tail) from by
        unfold crashI
        simp only
        rw [unhide HV]
        exact if_pos hok)
      obtain ⟨fs, hfs⟩ : ∃ fs, fs = flL (r.headD ⟨#[]⟩).data.toList := ⟨_, rfl⟩
      rw [← hfs] at HV2 hko
      clear hok hfs HV
      have c7 := heap_at (unhide K6) 7
      have run7 := run_storeL c7.1 c7.2 a m c
      have K7 := hide (show (w6.setCell ⟨A2, 7, none⟩ (.slice a m c)).heap[A2]? = some (.cells #[.int .i64 3, .int .i64 v, .int .i64 0, .int .i64 0, .string ⟨#[]⟩, .string ⟨#[]⟩, .string ⟨#[]⟩, .slice a m c] 26 (0, 0)) from heap_set (unhide K6) 7 _)
      have KW7 := hide (show (w6.setCell ⟨A2, 7, none⟩ (.slice a m c)).heap[w.heap.size]? = _ from (Below.heap_setCell _ _ _ _ (by show w.heap.size ≠ A2; have := unhide hab; omega)).trans (unhide KW6))
      have HW7 := hide (show Wrote R w (w6.setCell ⟨A2, 7, none⟩ (.slice a m c)) from wrote_cell (unhide HW6) (by have := unhide hab; omega))
      have R7 := hide (show RdW (w6.setCell ⟨A2, 7, none⟩ (.slice a m c)) R r.tail from rd_cell hr (by have := unhide hlt; have := unhide hab; omega))
      have KO7 := hide (show KeepOwns (w6.setCell ⟨A2, 7, none⟩ (.slice a m c)) (w.heap.size + 1) (.slice a m c) fs from ownsRow_down (keep_set hko (fun e => by have := (World.ownsRow.lt hko A2 e).1; have := unhide hA2; omega)) (by have := unhide hA2; have := unhide hab; omega))
      clear hko hr K6 KW6 HW6 c7
      go_upto_region 4 with (first | (refine al_wpStore rfl (.tmp 10) (.tmp 9) 24 rfl _ _ _ (by simp [Act.eval]) (by simp [Act.eval]) run7 ?_))
      clear run7
      generalize w6.setCell ⟨A2, 7, none⟩ (.slice a m c) = W7 at *
      have z0 := (heap_at (unhide K7) 0).1
      have z1 := (heap_at (unhide K7) 1).1
      have z2 := (heap_at (unhide K7) 2).1
      have z3 := (heap_at (unhide K7) 3).1
      have z4 := (heap_at (unhide K7) 4).1
      have z5 := (heap_at (unhide K7) 5).1
      have z6 := (heap_at (unhide K7) 6).1
      have z7 := (heap_at (unhide K7) 7).1
      have run := run_storeAl (unhide KW7) (crA v fs) a m c
      have kk := hide (sv8_heap (unhide KW7) (.int .i64 3) (.int .i64 v) (.int .i64 0) (.int .i64 0) (.string ⟨#[]⟩) (.string ⟨#[]⟩) (.string ⟨#[]⟩) (.slice a m c))
      have RES := hide (show ActR R (crashI (k :: r)) w (.returned (.agg #[.int .i64 3, .int .i64 v, .int .i64 0, .int .i64 0, .string ⟨#[]⟩, .string ⟨#[]⟩, .string ⟨#[]⟩, .slice a m c])) (sv8 W7 w.heap.size (.int .i64 3) (.int .i64 v) (.int .i64 0) (.int .i64 0) (.string ⟨#[]⟩) (.string ⟨#[]⟩) (.string ⟨#[]⟩) (.slice a m c)) from ⟨wrote_sv8 (unhide HW7) (Nat.le_refl _) (.int .i64 3) (.int .i64 v) (.int .i64 0) (.int .i64 0) (.string ⟨#[]⟩) (.string ⟨#[]⟩) (.string ⟨#[]⟩) (.slice a m c), .inl ⟨crA v fs, r.tail, a, m, c, unhide HV2, rfl, keep_sv8 (unhide KO7) (.int .i64 3) (.int .i64 v) (.int .i64 0) (.int .i64 0) (.string ⟨#[]⟩) (.string ⟨#[]⟩) (.string ⟨#[]⟩) (.slice a m c), rd_sv8 (unhide R7) (unhide hlt) (.int .i64 3) (.int .i64 v) (.int .i64 0) (.int .i64 0) (.string ⟨#[]⟩) (.string ⟨#[]⟩) (.string ⟨#[]⟩) (.slice a m c)⟩⟩)
      unfold sv8d crA at run
      simp only at run
      clear K7 KW7 HW7 R7 KO7 HV2
      go_wp2_with (first | (refine al_wpStore rfl (.tmp 2) (.tmp 11) 26 rfl _ _ _ (by simp [Act.eval]) (by simp [Act.eval]) run ?_))
      generalize sv8 _ w.heap.size (.int .i64 3) (.int .i64 v) (.int .i64 0) (.int .i64 0) (.string ⟨#[]⟩) (.string ⟨#[]⟩) (.string ⟨#[]⟩) (.slice a m c) = u at *
      have y0 := (heap_at (unhide kk) 0).1
      have y1 := (heap_at (unhide kk) 1).1
      have y2 := (heap_at (unhide kk) 2).1
      have y3 := (heap_at (unhide kk) 3).1
      have y4 := (heap_at (unhide kk) 4).1
      have y5 := (heap_at (unhide kk) 5).1
      have y6 := (heap_at (unhide kk) 6).1
      have y7 := (heap_at (unhide kk) 7).1
      clear run kk
      go_wp2_with fail
      refine bodyPost_ret (v := .agg #[.int .i64 3, .int .i64 v, .int .i64 0, .int .i64 0, .string ⟨#[]⟩, .string ⟨#[]⟩, .string ⟨#[]⟩, .slice a m c]) (by simp [results, Tryd.results40, go_sem, y0, y1, y2, y3, y4, y5, y6, y7]) rfl ?_
      exact unhide RES
    · have HV2 := hide (show crashI (k :: r) = none from by
        unfold crashI
        simp only
        rw [unhide HV]
        exact if_neg (by rw [hok]; decide))
      clear hok HV
      have RES := hide (show ActR R (crashI (k :: r)) w noE w6 from ⟨unhide HW6, .inr ⟨unhide HV2, rfl⟩⟩)
      clear K6 KW6 HW6 HV2
      unfold noE
      go_wp2_with fail
      exact ⟨rfl, unhide RES⟩
  · have HN := hide (show crashI L = none from by
      cases L with
      | nil => rfl
      | cons k r => unfold crashI; simp only; rw [hn k r rfl])
    clear hn
    have RES := hide (show ActR R (crashI L) w noE w4 from ⟨unhide HW4, .inr ⟨unhide HN, rfl⟩⟩)
    clear K4 KW4 HW4 HN
    unfold noE
    go_wp2_with fail
    exact ⟨rfl, unhide RES⟩
end Go.Proofs.YtmogcfiioajaeaaDoor
