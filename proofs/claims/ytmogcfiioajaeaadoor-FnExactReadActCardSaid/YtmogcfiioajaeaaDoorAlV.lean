/-
  actOf: the act that words tell, and none where they tell none.
-/
import Derived.Test.YtmogcfiioajaeaaDoorAlU
namespace Go.Proofs.YtmogcfiioajaeaaDoor
open Go.RowKit

def actO (L : List ByteArray) : Option AlD := match actI L with
  | some (d, []) => some d
  | _ => none
/-- What actOf gives. -/
def OfRes (w : World) (L : List ByteArray) (e : Ending) (w' : World) : Prop :=
  ∃ d a m c code, e = .returned (.tuple #[.agg (alC d (.slice a m c)), .int .i64 code]) ∧ ((actO L = some d ∧ code = 0) ∨ (actO L = none ∧ d = noAl ∧ code = 3)) ∧ KeepOwns w' w.heap.size (.slice a m c) d.keep ∧ Below w.heap.size w w'
theorem of_wrote {w w3 u : World} {R : Nat} (h3 : Below w.heap.size w w3) (h : Wrote R w3 u) (hR : w.heap.size ≤ R) : Below w.heap.size w u :=
  h3.trans (h.below hR h3.size)
set_option maxRecDepth 100000 in
set_option maxHeartbeats 8000000 in
theorem actOf_any (a : Option Addr) (n c : Nat) (L : List ByteArray) (w : World) (hr : StrRow w a n L) (hc : n ≤ c) (hn : n ≤ 70000) (ha : ∀ x, a = some x → x.block < w.heap.size) (hsz : ∀ x ∈ L, x.size ≤ 65536) (hL : LibW w) (h8 : 8 ≤ w.heap.size) :
    Calls Tryd.prog 11 #[.slice a n c] w fun e w' => OfRes w L e w' := by
  obtain ⟨w1, hw1⟩ : ∃ w1, w1 = w.alloc (.cells #[.int .i64 0, .int .i64 0, .int .i64 0, .int .i64 0, .string ⟨#[]⟩, .string ⟨#[]⟩, .string ⟨#[]⟩, .slice none 0 0] 26) := ⟨_, rfl⟩
  have b1 : Below w.heap.size w w1 := by rw [hw1]; exact (Below.refl _ _).alloc (Nat.le_refl _) _
  have s1 : w1.heap.size = w.heap.size + 1 := by rw [hw1]; simp
  have k1 : w1.heap[w.heap.size]? = some (.cells #[.int .i64 0, .int .i64 0, .int .i64 0, .int .i64 0, .string ⟨#[]⟩, .string ⟨#[]⟩, .string ⟨#[]⟩, .slice none 0 0] 26 (0, 0)) := by rw [hw1]; exact heap_alloc_new _ _
  obtain ⟨w2, hw2⟩ : ∃ w2, w2 = w1.alloc (.cells #[.int .i64 0] 3) := ⟨_, rfl⟩
  have b2 : Below w1.heap.size w1 w2 := by rw [hw2]; exact (Below.refl _ _).alloc (Nat.le_refl _) _
  have s2 : w2.heap.size = w.heap.size + 1 + 1 := by rw [hw2]; simp; omega
  have k2 : w2.heap[w.heap.size + 1]? = some (.cells #[.int .i64 0] 3 (0, 0)) := by rw [hw2, ← s1]; exact heap_alloc_new _ _
  obtain ⟨w3, hw3⟩ : ∃ w3, w3 = w2.alloc (.cells #[.slice a n c] 44) := ⟨_, rfl⟩
  have b3 : Below w2.heap.size w2 w3 := by rw [hw3]; exact (Below.refl _ _).alloc (Nat.le_refl _) _
  have k3 : w3.heap[w.heap.size + 1 + 1]? = some (.cells #[.slice a n c] 44 (0, 0)) := by rw [hw3, ← s2]; exact heap_alloc_new _ _
  have b13 : Below w.heap.size w w3 := b1.trans ((b2.mono b1.size).trans (b3.mono (by omega)))
  have KA := hide (show w3.heap[w.heap.size]? = _ from (b3.block _ (by omega)).trans ((b2.block _ (by omega)).trans k1))
  have KC := hide (show w3.heap[w.heap.size + 1]? = _ from (b3.block _ (by omega)).trans k2)
  have RD := hide (show RdW w3 (w.heap.size + 1 + 1) L from ⟨a, n, c, k3, hr.below b13, hc, hn, fun x e => by have := ha x e; omega, hsz⟩)
  have LW := hide (hL.wrote (R := w.heap.size + 1 + 1) (Wrote.of_below b13) (by omega) h8)
  have C := hide (act_any (w.heap.size + 1 + 1) L w3 (unhide RD) (unhide LW) (by omega))
  have B3 := hide b13
  have S1 := hide s1
  have S2 := hide s2
  clear b1 b2 b3 b13 k1 k2 k3 s1 s2 hr hsz hL LW RD ha
  have hmf : ∀ (fn : Fn) (first cap : Array Value) (w : World), (Instr.makeFunc fn first cap).run Tryd.prog w = .ok (.func fn first cap) w := fun _ _ _ _ => rfl
  go_enter_defers Tryd.func11, Tryd.ntmps11
  go_upto_region 1 with fail
  go_upto_region 3 with fail
  rw [← hw1, ← hw2, ← hw3]
  clear hw1 hw2 hw3 hmf
  go_wp2_with fail
  refine (unhide C).mono ?_
  rintro e w4 ⟨hw, hcase⟩
  have KA4 := hide ((hw.block _ (by omega) (al_lt (unhide KA))).trans (unhide KA))
  have KC4 := hide ((hw.block _ (by omega) (al_lt (unhide KC))).trans (unhide KC))
  have HW4 := hide hw
  have s34 := hide hw.size
  have s3 := hide (al_lt (unhide KC))
  clear C hw KA KC
  rcases hcase with ⟨⟨d1, d2, d3, d4, d5, d6, d7, d8⟩, rr, ka, km, kc, hv, rfl, hk, hrd⟩ | ⟨hn, rfl⟩
  · simp only [alC]
    have run := run_storeAl (unhide KA4) ⟨d1, d2, d3, d4, d5, d6, d7, d8⟩ ka km kc
    have KA5 := hide (sv8_heap (unhide KA4) (.int .i64 d1) (.int .i64 d2) (.int .i64 d3) (.int .i64 d4) (.string d5) (.string d6) (.string d7) (.slice ka km kc))
    have KC5 := hide (show (sv8 w4 w.heap.size (.int .i64 d1) (.int .i64 d2) (.int .i64 d3) (.int .i64 d4) (.string d5) (.string d6) (.string d7) (.slice ka km kc)).heap[w.heap.size + 1]? = _ from (sv8_other (by omega) _ _ _ _ _ _ _ _).trans (unhide KC4))
    have HW5 := hide (show Below w.heap.size w (sv8 w4 w.heap.size (.int .i64 d1) (.int .i64 d2) (.int .i64 d3) (.int .i64 d4) (.string d5) (.string d6) (.string d7) (.slice ka km kc)) from sv8_below (of_wrote (unhide B3) (unhide HW4) (by omega)) (Nat.le_refl _) (.int .i64 d1) (.int .i64 d2) (.int .i64 d3) (.int .i64 d4) (.string d5) (.string d6) (.string d7) (.slice ka km kc))
    have KK5 := hide (show KeepOwns (sv8 w4 w.heap.size (.int .i64 d1) (.int .i64 d2) (.int .i64 d3) (.int .i64 d4) (.string d5) (.string d6) (.string d7) (.slice ka km kc)) (w.heap.size + 1 + 1) (.slice ka km kc) d8 from ownsRow_down (ownsRow_heap hk (fun g hg => sv8_other (by have := (World.ownsRow.lt hk g hg).1; have := unhide s3; omega) _ _ _ _ _ _ _ _)) (by have := unhide s3; omega))
    have RD5 := hide (show RdW (sv8 w4 w.heap.size (.int .i64 d1) (.int .i64 d2) (.int .i64 d3) (.int .i64 d4) (.string d5) (.string d6) (.string d7) (.slice ka km kc)) (w.heap.size + 1 + 1) rr from hrd.keep (sv8_other (by omega) _ _ _ _ _ _ _ _) (fun i hi => sv8_other (by omega) _ _ _ _ _ _ _ _))
    have HV := hide hv
    unfold sv8d at run
    simp only at run
    clear hk hrd hv KA4 KC4 HW4
    go_upto_region 4 with (first | (refine al_wpStore rfl (.tmp 2) (.tmp 8) 26 rfl _ _ _ (by simp [Act.eval]) (by simp [Act.eval]) run ?_))
    clear run
    generalize sv8 w4 w.heap.size (.int .i64 d1) (.int .i64 d2) (.int .i64 d3) (.int .i64 d4) (.string d5) (.string d6) (.string d7) (.slice ka km kc) = w5 at *
    cases rr with
    | nil =>
      have C := hide (end_nil _ w5 (unhide RD5))
      clear RD5
      go_wp2_with fail
      refine (unhide C).mono ?_
      rintro e w6 ⟨rfl, rfl⟩
      clear C
      have run := run_storeAl (unhide KA5) ⟨d1, d2, d3, d4, d5, d6, d7, d8⟩ ka km kc
      have KA6 := hide (sv8_heap (unhide KA5) (.int .i64 d1) (.int .i64 d2) (.int .i64 d3) (.int .i64 d4) (.string d5) (.string d6) (.string d7) (.slice ka km kc))
      have KC6 := hide (show (sv8 w6 w.heap.size (.int .i64 d1) (.int .i64 d2) (.int .i64 d3) (.int .i64 d4) (.string d5) (.string d6) (.string d7) (.slice ka km kc)).heap[w.heap.size + 1]? = _ from (sv8_other (by omega) _ _ _ _ _ _ _ _).trans (unhide KC5))
      have HW6 := hide (show Below w.heap.size w (sv8 w6 w.heap.size (.int .i64 d1) (.int .i64 d2) (.int .i64 d3) (.int .i64 d4) (.string d5) (.string d6) (.string d7) (.slice ka km kc)) from sv8_below (unhide HW5) (Nat.le_refl _) (.int .i64 d1) (.int .i64 d2) (.int .i64 d3) (.int .i64 d4) (.string d5) (.string d6) (.string d7) (.slice ka km kc))
      have KK6 := hide (show KeepOwns (sv8 w6 w.heap.size (.int .i64 d1) (.int .i64 d2) (.int .i64 d3) (.int .i64 d4) (.string d5) (.string d6) (.string d7) (.slice ka km kc)) (w.heap.size + 1 + 1) (.slice ka km kc) d8 from ownsRow_heap (unhide KK5) (fun g hg => sv8_other (by have := (World.ownsRow.lt (unhide KK5) g hg).1; omega) _ _ _ _ _ _ _ _))
      unfold sv8d at run
      simp only at run
      have z0 := (heap_at (unhide KA5) 0).1
      have z1 := (heap_at (unhide KA5) 1).1
      have z2 := (heap_at (unhide KA5) 2).1
      have z3 := (heap_at (unhide KA5) 3).1
      have z4 := (heap_at (unhide KA5) 4).1
      have z5 := (heap_at (unhide KA5) 5).1
      have z6 := (heap_at (unhide KA5) 6).1
      have z7 := (heap_at (unhide KA5) 7).1
      clear KC5 HW5 KK5 KA5
      generalize sv8 w6 w.heap.size (.int .i64 d1) (.int .i64 d2) (.int .i64 d3) (.int .i64 d4) (.string d5) (.string d6) (.string d7) (.slice ka km kc) = W6 at *
      have KC7 := heap_at (unhide KC6) 0
      have run2 := run_storeN KC7.1 KC7.2 0
      have KU := hide (show (W6.setCell ⟨w.heap.size + 1, 0, none⟩ (.int .i64 0)).heap[w.heap.size]? = _ from (Below.heap_setCell _ _ _ _ (by show w.heap.size ≠ w.heap.size + 1; omega)).trans (unhide KA6))
      have KV := hide (show (W6.setCell ⟨w.heap.size + 1, 0, none⟩ (.int .i64 0)).heap[w.heap.size + 1]? = some (.cells #[.int .i64 0] 3 (0, 0)) from heap_set (unhide KC6) 0 _)
      have RES := hide (And.intro (show actO L = some ⟨d1, d2, d3, d4, d5, d6, d7, d8⟩ from by unfold actO; rw [unhide HV]) (And.intro (show KeepOwns (W6.setCell ⟨w.heap.size + 1, 0, none⟩ (.int .i64 0)) w.heap.size (.slice ka km kc) d8 from ownsRow_down (keep_set (unhide KK6) (fun e => by have := (World.ownsRow.lt (unhide KK6) _ e).1; omega)) (by omega)) (show Below w.heap.size w (W6.setCell ⟨w.heap.size + 1, 0, none⟩ (.int .i64 0)) from al_set (unhide HW6) (by omega) 0 _)))
      clear KA6 KC6 HW6 KK6 HV KC7
      generalize W6.setCell ⟨w.heap.size + 1, 0, none⟩ (.int .i64 0) = u at *
      go_wp2_with (first | (refine al_wpStore rfl (.tmp 2) (.tmp 10) 26 rfl _ _ _ (by simp [Act.eval]) (by simp [Act.eval]) run ?_) | (refine al_wpStore rfl (.tmp 3) (.const (.int .i64 0)) 3 rfl _ _ _ (by rfl) (by rfl) run2 ?_))
      clear run run2 z0 z1 z2 z3 z4 z5 z6 z7
      refine leaves_cons (f := 20) (args := #[.pointer (some ⟨w.heap.size, 0, none⟩), .pointer (some ⟨w.heap.size + 1, 0, none⟩)]) (by simp) (by simp [go_sem]) ?_
      refine (catch_idle w.heap.size (w.heap.size + 1) u).mono ?_
      rintro e u' w'' ⟨rfl, rfl, rfl⟩
      have y0 := (heap_at (unhide KU) 0).1
      have y1 := (heap_at (unhide KU) 1).1
      have y2 := (heap_at (unhide KU) 2).1
      have y3 := (heap_at (unhide KU) 3).1
      have y4 := (heap_at (unhide KU) 4).1
      have y5 := (heap_at (unhide KU) 5).1
      have y6 := (heap_at (unhide KU) 6).1
      have y7 := (heap_at (unhide KU) 7).1
      have yc := (heap_at (unhide KV) 0).1
      clear KU KV
      simp [Leaves, settle, results, Tryd.results11, go_sem, y0, y1, y2, y3, y4, y5, y6, y7, yc]
      exact ⟨⟨d1, d2, d3, d4, d5, d6, d7, d8⟩, ka, km, kc, 0, rfl, .inl ⟨(unhide RES).1, rfl⟩, (unhide RES).2.1, (unhide RES).2.2⟩
    | cons x r' =>
      have C := hide (end_cons _ x r' w5 (unhide RD5))
      clear RD5
      go_wp2_with fail
      refine (unhide C).mono ?_
      rintro e w6 ⟨rfl, rfl⟩
      clear C
      unfold noE
      go_wp2_with fail
      refine leaves_cons (f := 20) (args := #[.pointer (some ⟨w.heap.size, 0, none⟩), .pointer (some ⟨w.heap.size + 1, 0, none⟩)]) (by simp) (by simp [go_sem]) ?_
      refine (catch_panicking w.heap.size (w.heap.size + 1) _ _ [] _ _ _ _ _ _ _ _ _ w6 (unhide KA5) (unhide KC5) (by omega)).mono ?_
      rintro e u' w'' ⟨rfl, rfl, rfl⟩
      have KU := hide (show ((sv8 w6 w.heap.size (.int .i64 0) (.int .i64 0) (.int .i64 0) (.int .i64 0) (.string ⟨#[]⟩) (.string ⟨#[]⟩) (.string ⟨#[]⟩) (.slice none 0 0)).setCell ⟨w.heap.size + 1, 0, none⟩ (.int .i64 3)).heap[w.heap.size]? = some (.cells #[.int .i64 0, .int .i64 0, .int .i64 0, .int .i64 0, .string ⟨#[]⟩, .string ⟨#[]⟩, .string ⟨#[]⟩, .slice none 0 0] 26 (0, 0)) from (Below.heap_setCell _ _ _ _ (by show w.heap.size ≠ w.heap.size + 1; omega)).trans (sv8_heap (unhide KA5) (.int .i64 0) (.int .i64 0) (.int .i64 0) (.int .i64 0) (.string ⟨#[]⟩) (.string ⟨#[]⟩) (.string ⟨#[]⟩) (.slice none 0 0)))
      have KV := hide (show ((sv8 w6 w.heap.size (.int .i64 0) (.int .i64 0) (.int .i64 0) (.int .i64 0) (.string ⟨#[]⟩) (.string ⟨#[]⟩) (.string ⟨#[]⟩) (.slice none 0 0)).setCell ⟨w.heap.size + 1, 0, none⟩ (.int .i64 3)).heap[w.heap.size + 1]? = some (.cells #[.int .i64 3] 3 (0, 0)) from heap_set ((sv8_other (by omega) _ _ _ _ _ _ _ _).trans (unhide KC5)) 0 _)
      have RES := hide (And.intro (show actO L = none from by unfold actO; rw [unhide HV]) (show Below w.heap.size w ((sv8 w6 w.heap.size (.int .i64 0) (.int .i64 0) (.int .i64 0) (.int .i64 0) (.string ⟨#[]⟩) (.string ⟨#[]⟩) (.string ⟨#[]⟩) (.slice none 0 0)).setCell ⟨w.heap.size + 1, 0, none⟩ (.int .i64 3)) from al_set (sv8_below (unhide HW5) (Nat.le_refl _) (.int .i64 0) (.int .i64 0) (.int .i64 0) (.int .i64 0) (.string ⟨#[]⟩) (.string ⟨#[]⟩) (.string ⟨#[]⟩) (.slice none 0 0)) (by omega) 0 _))
      clear HV KA5 KC5 HW5 KK5
      generalize (sv8 w6 w.heap.size (.int .i64 0) (.int .i64 0) (.int .i64 0) (.int .i64 0) (.string ⟨#[]⟩) (.string ⟨#[]⟩) (.string ⟨#[]⟩) (.slice none 0 0)).setCell ⟨w.heap.size + 1, 0, none⟩ (.int .i64 3) = u at *
      have y0 := (heap_at (unhide KU) 0).1
      have y1 := (heap_at (unhide KU) 1).1
      have y2 := (heap_at (unhide KU) 2).1
      have y3 := (heap_at (unhide KU) 3).1
      have y4 := (heap_at (unhide KU) 4).1
      have y5 := (heap_at (unhide KU) 5).1
      have y6 := (heap_at (unhide KU) 6).1
      have y7 := (heap_at (unhide KU) 7).1
      have yc := (heap_at (unhide KV) 0).1
      clear KU KV
      simp [Leaves, settle, results, Tryd.results11, go_sem, y0, y1, y2, y3, y4, y5, y6, y7, yc]
      exact ⟨noAl, none, 0, 0, 3, rfl, .inr ⟨(unhide RES).1, rfl, rfl⟩, keep_nil _ _, (unhide RES).2⟩
  · unfold noE
    go_wp2_with fail
    refine leaves_cons (f := 20) (args := #[.pointer (some ⟨w.heap.size, 0, none⟩), .pointer (some ⟨w.heap.size + 1, 0, none⟩)]) (by simp) (by simp [go_sem]) ?_
    refine (catch_panicking w.heap.size (w.heap.size + 1) _ _ [] _ _ _ _ _ _ _ _ _ w4 (unhide KA4) (unhide KC4) (by omega)).mono ?_
    rintro e u' w'' ⟨rfl, rfl, rfl⟩
    have KU := hide (show ((sv8 w4 w.heap.size (.int .i64 0) (.int .i64 0) (.int .i64 0) (.int .i64 0) (.string ⟨#[]⟩) (.string ⟨#[]⟩) (.string ⟨#[]⟩) (.slice none 0 0)).setCell ⟨w.heap.size + 1, 0, none⟩ (.int .i64 3)).heap[w.heap.size]? = some (.cells #[.int .i64 0, .int .i64 0, .int .i64 0, .int .i64 0, .string ⟨#[]⟩, .string ⟨#[]⟩, .string ⟨#[]⟩, .slice none 0 0] 26 (0, 0)) from (Below.heap_setCell _ _ _ _ (by show w.heap.size ≠ w.heap.size + 1; omega)).trans (sv8_heap (unhide KA4) (.int .i64 0) (.int .i64 0) (.int .i64 0) (.int .i64 0) (.string ⟨#[]⟩) (.string ⟨#[]⟩) (.string ⟨#[]⟩) (.slice none 0 0)))
    have KV := hide (show ((sv8 w4 w.heap.size (.int .i64 0) (.int .i64 0) (.int .i64 0) (.int .i64 0) (.string ⟨#[]⟩) (.string ⟨#[]⟩) (.string ⟨#[]⟩) (.slice none 0 0)).setCell ⟨w.heap.size + 1, 0, none⟩ (.int .i64 3)).heap[w.heap.size + 1]? = some (.cells #[.int .i64 3] 3 (0, 0)) from heap_set ((sv8_other (by omega) _ _ _ _ _ _ _ _).trans (unhide KC4)) 0 _)
    have RES := hide (And.intro (show actO L = none from by unfold actO; rw [hn]) (show Below w.heap.size w ((sv8 w4 w.heap.size (.int .i64 0) (.int .i64 0) (.int .i64 0) (.int .i64 0) (.string ⟨#[]⟩) (.string ⟨#[]⟩) (.string ⟨#[]⟩) (.slice none 0 0)).setCell ⟨w.heap.size + 1, 0, none⟩ (.int .i64 3)) from al_set (sv8_below (of_wrote (unhide B3) (unhide HW4) (by omega)) (Nat.le_refl _) (.int .i64 0) (.int .i64 0) (.int .i64 0) (.int .i64 0) (.string ⟨#[]⟩) (.string ⟨#[]⟩) (.string ⟨#[]⟩) (.slice none 0 0)) (by omega) 0 _))
    clear hn KA4 KC4 HW4
    generalize (sv8 w4 w.heap.size (.int .i64 0) (.int .i64 0) (.int .i64 0) (.int .i64 0) (.string ⟨#[]⟩) (.string ⟨#[]⟩) (.string ⟨#[]⟩) (.slice none 0 0)).setCell ⟨w.heap.size + 1, 0, none⟩ (.int .i64 3) = u at *
    have y0 := (heap_at (unhide KU) 0).1
    have y1 := (heap_at (unhide KU) 1).1
    have y2 := (heap_at (unhide KU) 2).1
    have y3 := (heap_at (unhide KU) 3).1
    have y4 := (heap_at (unhide KU) 4).1
    have y5 := (heap_at (unhide KU) 5).1
    have y6 := (heap_at (unhide KU) 6).1
    have y7 := (heap_at (unhide KU) 7).1
    have yc := (heap_at (unhide KV) 0).1
    clear KU KV
    simp [Leaves, settle, results, Tryd.results11, go_sem, y0, y1, y2, y3, y4, y5, y6, y7, yc]
    exact ⟨noAl, none, 0, 0, 3, rfl, .inr ⟨(unhide RES).1, rfl, rfl⟩, keep_nil _ _, (unhide RES).2⟩
end Go.Proofs.YtmogcfiioajaeaaDoor
