/-
  ReadAct, of both sides.
-/
import Derived.Test.YtmogcfiioajaeaaDoorAlZ
namespace Go.Proofs.YtmogcfiioajaeaaDoor
open Go.RowKit

/-- The act that a line tells, and the code. -/
def raD (s : ByteArray) : AlD × Int := if 65536 < s.size then (noAl, 2) else match acW (wordsB s) with
  | some d => (d, 0)
  | none => (noAl, 3)
def RaRes (w : World) (s : ByteArray) (e : Ending) (w' : World) : Prop :=
  ∃ d a m c code, e = .returned (.tuple #[.agg (alC d (.slice a m c)), .int .i64 code]) ∧ (d, code) = raD s ∧ KeepOwns w' w.heap.size (.slice a m c) d.keep ∧ Below w.heap.size w w'
theorem strowns_parts {w : World} {B : Nat} {v : Value} {ks : List ByteArray} (h : StrOwns w B v ks) (_hB : B ≤ w.heap.size) : ∃ a c, v = .slice a ks.length c ∧ ks.length ≤ c ∧ StrRow w a ks.length ks ∧ ∀ x, a = some x → x.block < w.heap.size := by
  have h' := h
  rcases h.2 with ⟨rfl, h0⟩ | ⟨g, cap, cur, rfl, hb, hh, h1, _⟩
  · exact ⟨none, 0, by rw [h0], by omega, ⟨rfl, fun i hi => absurd hi (by omega)⟩, fun x e => by cases e⟩
  · exact ⟨_, cap, rfl, h1, strrow_own h', fun x e => by injection e with e; rw [← e]; exact al_lt hh⟩
theorem ra_long {s : ByteArray} (h : 65536 < s.size) : (noAl, (2 : Int)) = raD s := by unfold raD; rw [if_pos h]
theorem ra_some {s : ByteArray} {d : AlD} (h : ¬ 65536 < s.size) (hd : acW (wordsB s) = some d) : (d, (0 : Int)) = raD s := by unfold raD; rw [if_neg h, hd]
theorem ra_none {s : ByteArray} (h : ¬ 65536 < s.size) (hd : acW (wordsB s) = none) : (noAl, (3 : Int)) = raD s := by unfold raD; rw [if_neg h, hd]
set_option maxRecDepth 100000 in
set_option maxHeartbeats 8000000 in
theorem specReadAct_any (s : ByteArray) (w : World) (hs : s.size ≤ 1048576) :
    Calls Tryd.prog 4 #[.string s] w fun e w' => RaRes w s e w' := by
  obtain ⟨w1, hw1⟩ : ∃ w1, w1 = w.alloc (.cells #[.int .i64 0, .int .i64 0, .int .i64 0, .int .i64 0, .string ⟨#[]⟩, .string ⟨#[]⟩, .string ⟨#[]⟩, .slice none 0 0] 26) := ⟨_, rfl⟩
  have b1 : Below w.heap.size w w1 := by rw [hw1]; exact (Below.refl _ _).alloc (Nat.le_refl _) _
  have s1 := hide (show w1.heap.size = w.heap.size + 1 by rw [hw1]; simp)
  have KW := hide (show w1.heap[w.heap.size]? = some (.cells #[.int .i64 0, .int .i64 0, .int .i64 0, .int .i64 0, .string ⟨#[]⟩, .string ⟨#[]⟩, .string ⟨#[]⟩, .slice none 0 0] 26 (0, 0)) from by rw [hw1]; exact heap_alloc_new _ _)
  have BW := hide b1
  clear b1
  by_cases hlong : 65536 < s.size
  · have hl2 : (65536 : Int) < (s.size : Int) := by omega
    have HL := hide hlong
    clear hlong
    go_enter Tryd.func4, Tryd.ntmps4
    go_upto_region 1 with fail
    rw [← hw1]
    clear hw1
    have run := run_storeAl (unhide KW) noAl none 0 0
    have kk := hide (sv8_heap (unhide KW) (.int .i64 0) (.int .i64 0) (.int .i64 0) (.int .i64 0) (.string ⟨#[]⟩) (.string ⟨#[]⟩) (.string ⟨#[]⟩) (.slice none 0 0))
    have RES := hide (And.intro (show (noAl, (2 : Int)) = raD s from ra_long (unhide HL)) (And.intro (keep_nil w1 w.heap.size) (sv8_below (unhide BW) (Nat.le_refl w.heap.size) (.int .i64 0) (.int .i64 0) (.int .i64 0) (.int .i64 0) (.string ⟨#[]⟩) (.string ⟨#[]⟩) (.string ⟨#[]⟩) (.slice none 0 0))))
    unfold sv8d noAl at run
    simp only at run
    clear KW BW s1 HL
    go_wp2_with (first | (refine al_wpStore rfl (.tmp 2) (.tmp 10) 26 rfl _ _ _ (by simp [Act.eval]) (by simp [Act.eval]) run ?_))
    generalize sv8 _ w.heap.size (.int .i64 0) (.int .i64 0) (.int .i64 0) (.int .i64 0) (.string ⟨#[]⟩) (.string ⟨#[]⟩) (.string ⟨#[]⟩) (.slice none 0 0) = u at *
    have y0 := (heap_at (unhide kk) 0).1
    have y1 := (heap_at (unhide kk) 1).1
    have y2 := (heap_at (unhide kk) 2).1
    have y3 := (heap_at (unhide kk) 3).1
    have y4 := (heap_at (unhide kk) 4).1
    have y5 := (heap_at (unhide kk) 5).1
    have y6 := (heap_at (unhide kk) 6).1
    have y7 := (heap_at (unhide kk) 7).1
    clear run kk
    go_wp2_with fail
    refine bodyPost_ret (v := .tuple #[.agg #[.int .i64 0, .int .i64 0, .int .i64 0, .int .i64 0, .string ⟨#[]⟩, .string ⟨#[]⟩, .string ⟨#[]⟩, .slice none 0 0], .int .i64 2]) (by simp [results, Tryd.results4, go_sem, y0, y1, y2, y3, y4, y5, y6, y7]) rfl ?_
    exact ⟨noAl, none, 0, 0, 2, rfl, (unhide RES).1, keep_nil _ _, (unhide RES).2.2⟩
  have hl2 : (s.size : Int) ≤ 65536 := by omega
  have C := hide (l00Words_any s w1 (by omega))
  have HL := hide hlong
  have WN := hide (words_n s (by omega))
  have WZ := hide (words_sz s (by omega))
  clear hlong
  go_enter Tryd.func4, Tryd.ntmps4
  go_upto_region 1 with fail
  rw [← hw1]
  clear hw1
  go_wp2_with fail
  refine (unhide C).mono ?_
  rintro e w2 ⟨v, rfl, ho, hb⟩
  obtain ⟨a, c, rfl, hnc, hr, ha⟩ := strowns_parts ho hb.size
  have KW2 := hide ((hb.block _ (al_lt (unhide KW))).trans (unhide KW))
  have BW2 := hide ((unhide BW).trans (hb.mono (unhide BW).size))
  clear KW BW C ho hb ha
  generalize hLL : wordsB s = L at *
  have HLL := hide hLL
  clear hLL
  by_cases hn0 : L.length = 0
  · have g0 : ((L.length : Int) == 0) = true := by rw [beq_iff_eq]; omega
    have HA := hide (show acW (wordsB s) = none from by rw [unhide HLL, List.length_eq_zero_iff.1 hn0]; rfl)
    clear hn0 hr hnc
    have run := run_storeAl (unhide KW2) noAl none 0 0
    have kk := hide (sv8_heap (unhide KW2) (.int .i64 0) (.int .i64 0) (.int .i64 0) (.int .i64 0) (.string ⟨#[]⟩) (.string ⟨#[]⟩) (.string ⟨#[]⟩) (.slice none 0 0))
    have RES := hide (And.intro (show (noAl, (3 : Int)) = raD s from ra_none (unhide HL) (unhide HA)) (And.intro (keep_nil w2 w.heap.size) (sv8_below (unhide BW2) (Nat.le_refl w.heap.size) (.int .i64 0) (.int .i64 0) (.int .i64 0) (.int .i64 0) (.string ⟨#[]⟩) (.string ⟨#[]⟩) (.string ⟨#[]⟩) (.slice none 0 0))))
    unfold sv8d noAl at run
    simp only at run
    clear KW2 BW2 HL HA HLL WN WZ s1
    go_wp2_with (first | (refine al_wpStore rfl (.tmp 2) (.tmp 16) 26 rfl _ _ _ (by simp [Act.eval]) (by simp [Act.eval]) run ?_))
    generalize sv8 _ w.heap.size (.int .i64 0) (.int .i64 0) (.int .i64 0) (.int .i64 0) (.string ⟨#[]⟩) (.string ⟨#[]⟩) (.string ⟨#[]⟩) (.slice none 0 0) = u at *
    have y0 := (heap_at (unhide kk) 0).1
    have y1 := (heap_at (unhide kk) 1).1
    have y2 := (heap_at (unhide kk) 2).1
    have y3 := (heap_at (unhide kk) 3).1
    have y4 := (heap_at (unhide kk) 4).1
    have y5 := (heap_at (unhide kk) 5).1
    have y6 := (heap_at (unhide kk) 6).1
    have y7 := (heap_at (unhide kk) 7).1
    clear run kk
    go_wp2_with fail
    refine bodyPost_ret (v := .tuple #[.agg #[.int .i64 0, .int .i64 0, .int .i64 0, .int .i64 0, .string ⟨#[]⟩, .string ⟨#[]⟩, .string ⟨#[]⟩, .slice none 0 0], .int .i64 3]) (by simp [results, Tryd.results4, go_sem, y0, y1, y2, y3, y4, y5, y6, y7]) rfl ?_
    exact ⟨noAl, none, 0, 0, 3, rfl, (unhide RES).1, keep_nil _ _, (unhide RES).2.2⟩
  have g0 : ((L.length : Int) == 0) = false := by rw [beq_eq_false_iff_ne]; omega
  have C := hide (l08Act_any a L.length c L w2 hr (unhide WN) hnc (by omega) (unhide WZ))
  clear hr hnc hn0
  generalize L.length = n at *
  go_wp2_with fail
  refine (unhide C).mono ?_
  rintro e w3 ⟨⟨d1, d2, d3, d4, d5, d6, d7, d8⟩, ka, km, kc, b, rfl, hac, hko, hb⟩
  simp only [alC]
  have KW3 := hide ((hb.block _ (al_lt (unhide KW2))).trans (unhide KW2))
  have BW3 := hide ((unhide BW2).trans (hb.mono (unhide BW2).size))
  have KO3 := hide (show KeepOwns w3 (w.heap.size + 1) (.slice ka km kc) d8 from ownsRow_down hko (by have := al_lt (unhide KW2); omega))
  have HA := hide hac
  clear KW2 BW2 C hko hb hac WN WZ
  obtain ⟨w4, hw4⟩ : ∃ w4, w4 = w3.alloc (.cells #[.int .i64 d1, .int .i64 d2, .int .i64 d3, .int .i64 d4, .string d5, .string d6, .string d7, .slice ka km kc] 26) := ⟨_, rfl⟩
  have b4 : Below w3.heap.size w3 w4 := by rw [hw4]; exact (Below.refl _ _).alloc (Nat.le_refl _) _
  have K4 := hide (show w4.heap[w3.heap.size]? = some (.cells #[.int .i64 d1, .int .i64 d2, .int .i64 d3, .int .i64 d4, .string d5, .string d6, .string d7, .slice ka km kc] 26 (0, 0)) from by rw [hw4]; exact heap_alloc_new _ _)
  have KW4 := hide ((b4.block _ (al_lt (unhide KW3))).trans (unhide KW3))
  have BW4 := hide ((unhide BW3).trans (b4.mono (unhide BW3).size))
  have KO4 := hide (show KeepOwns w4 (w.heap.size + 1) (.slice ka km kc) d8 from ownsRow_heap (unhide KO3) (fun g hg => b4.block g (World.ownsRow.lt (unhide KO3) g hg).2))
  clear KW3 BW3 KO3 b4
  cases b with
  | true =>
    go_upto_region 7 with fail
    rw [← hw4]
    clear hw4
    generalize w3.heap.size = A4 at *
    have z0 := (heap_at (unhide K4) 0).1
    have z1 := (heap_at (unhide K4) 1).1
    have z2 := (heap_at (unhide K4) 2).1
    have z3 := (heap_at (unhide K4) 3).1
    have z4 := (heap_at (unhide K4) 4).1
    have z5 := (heap_at (unhide K4) 5).1
    have z6 := (heap_at (unhide K4) 6).1
    have z7 := (heap_at (unhide K4) 7).1
    have HA2 := hide (show acW (wordsB s) = some ⟨d1, d2, d3, d4, d5, d6, d7, d8⟩ from by rw [unhide HLL, unhide HA]; exact if_pos rfl)
    clear HA
    have run := run_storeAl (unhide KW4) ⟨d1, d2, d3, d4, d5, d6, d7, d8⟩ ka km kc
    have kk := hide (sv8_heap (unhide KW4) (.int .i64 d1) (.int .i64 d2) (.int .i64 d3) (.int .i64 d4) (.string d5) (.string d6) (.string d7) (.slice ka km kc))
    have RES := hide (And.intro (show (⟨d1, d2, d3, d4, d5, d6, d7, d8⟩, (0 : Int)) = raD s from ra_some (unhide HL) (unhide HA2)) (And.intro (keep_sv8 (unhide KO4) (.int .i64 d1) (.int .i64 d2) (.int .i64 d3) (.int .i64 d4) (.string d5) (.string d6) (.string d7) (.slice ka km kc)) (sv8_below (unhide BW4) (Nat.le_refl w.heap.size) (.int .i64 d1) (.int .i64 d2) (.int .i64 d3) (.int .i64 d4) (.string d5) (.string d6) (.string d7) (.slice ka km kc))))
    unfold sv8d at run
    simp only at run
    clear KW4 BW4 K4 KO4 HL HA2 HLL s1
    go_wp2_with (first | (refine al_wpStore rfl (.tmp 2) (.tmp 25) 26 rfl _ _ _ (by simp [Act.eval]) (by simp [Act.eval]) run ?_))
    generalize sv8 _ w.heap.size (.int .i64 d1) (.int .i64 d2) (.int .i64 d3) (.int .i64 d4) (.string d5) (.string d6) (.string d7) (.slice ka km kc) = u at *
    have y0 := (heap_at (unhide kk) 0).1
    have y1 := (heap_at (unhide kk) 1).1
    have y2 := (heap_at (unhide kk) 2).1
    have y3 := (heap_at (unhide kk) 3).1
    have y4 := (heap_at (unhide kk) 4).1
    have y5 := (heap_at (unhide kk) 5).1
    have y6 := (heap_at (unhide kk) 6).1
    have y7 := (heap_at (unhide kk) 7).1
    clear run kk
    go_wp2_with fail
    refine bodyPost_ret (v := .tuple #[.agg #[.int .i64 d1, .int .i64 d2, .int .i64 d3, .int .i64 d4, .string d5, .string d6, .string d7, .slice ka km kc], .int .i64 0]) (by simp [results, Tryd.results4, go_sem, y0, y1, y2, y3, y4, y5, y6, y7]) rfl ?_
    exact ⟨⟨d1, d2, d3, d4, d5, d6, d7, d8⟩, ka, km, kc, 0, rfl, (unhide RES).1, (unhide RES).2.1, (unhide RES).2.2⟩
  | false =>
    go_upto_region 7 with fail
    rw [← hw4]
    clear hw4
    generalize w3.heap.size = A4 at *
    have HA2 := hide (show acW (wordsB s) = none from by rw [unhide HLL, unhide HA]; exact if_neg (by decide))
    clear HA K4 KO4
    have run := run_storeAl (unhide KW4) noAl none 0 0
    have kk := hide (sv8_heap (unhide KW4) (.int .i64 0) (.int .i64 0) (.int .i64 0) (.int .i64 0) (.string ⟨#[]⟩) (.string ⟨#[]⟩) (.string ⟨#[]⟩) (.slice none 0 0))
    have RES := hide (And.intro (show (noAl, (3 : Int)) = raD s from ra_none (unhide HL) (unhide HA2)) (And.intro (keep_nil w4 w.heap.size) (sv8_below (unhide BW4) (Nat.le_refl w.heap.size) (.int .i64 0) (.int .i64 0) (.int .i64 0) (.int .i64 0) (.string ⟨#[]⟩) (.string ⟨#[]⟩) (.string ⟨#[]⟩) (.slice none 0 0))))
    unfold sv8d noAl at run
    simp only at run
    clear KW4 BW4 HL HA2 HLL s1
    go_wp2_with (first | (refine al_wpStore rfl (.tmp 2) (.tmp 24) 26 rfl _ _ _ (by simp [Act.eval]) (by simp [Act.eval]) run ?_))
    generalize sv8 _ w.heap.size (.int .i64 0) (.int .i64 0) (.int .i64 0) (.int .i64 0) (.string ⟨#[]⟩) (.string ⟨#[]⟩) (.string ⟨#[]⟩) (.slice none 0 0) = u at *
    have y0 := (heap_at (unhide kk) 0).1
    have y1 := (heap_at (unhide kk) 1).1
    have y2 := (heap_at (unhide kk) 2).1
    have y3 := (heap_at (unhide kk) 3).1
    have y4 := (heap_at (unhide kk) 4).1
    have y5 := (heap_at (unhide kk) 5).1
    have y6 := (heap_at (unhide kk) 6).1
    have y7 := (heap_at (unhide kk) 7).1
    clear run kk
    go_wp2_with fail
    refine bodyPost_ret (v := .tuple #[.agg #[.int .i64 0, .int .i64 0, .int .i64 0, .int .i64 0, .string ⟨#[]⟩, .string ⟨#[]⟩, .string ⟨#[]⟩, .slice none 0 0], .int .i64 3]) (by simp [results, Tryd.results4, go_sem, y0, y1, y2, y3, y4, y5, y6, y7]) rfl ?_
    exact ⟨noAl, none, 0, 0, 3, rfl, (unhide RES).1, keep_nil _ _, (unhide RES).2.2⟩
set_option maxRecDepth 100000 in
set_option maxHeartbeats 8000000 in
theorem implReadAct_any (s : ByteArray) (w : World) (hs : s.size ≤ 1048576) (hL : LibW w) (h8 : 8 ≤ w.heap.size) :
    Calls Tryd.prog 5 #[.string s] w fun e w' => RaRes w s e w' := by
  obtain ⟨w1, hw1⟩ : ∃ w1, w1 = w.alloc (.cells #[.int .i64 0, .int .i64 0, .int .i64 0, .int .i64 0, .string ⟨#[]⟩, .string ⟨#[]⟩, .string ⟨#[]⟩, .slice none 0 0] 26) := ⟨_, rfl⟩
  have b1 : Below w.heap.size w w1 := by rw [hw1]; exact (Below.refl _ _).alloc (Nat.le_refl _) _
  have s1 := hide (show w1.heap.size = w.heap.size + 1 by rw [hw1]; simp)
  have KW := hide (show w1.heap[w.heap.size]? = some (.cells #[.int .i64 0, .int .i64 0, .int .i64 0, .int .i64 0, .string ⟨#[]⟩, .string ⟨#[]⟩, .string ⟨#[]⟩, .slice none 0 0] 26 (0, 0)) from by rw [hw1]; exact heap_alloc_new _ _)
  have BW := hide b1
  clear b1
  by_cases hlong : 65536 < s.size
  · have hl2 : (65536 : Int) < (s.size : Int) := by omega
    have HL := hide hlong
    clear hlong
    go_enter Tryd.func5, Tryd.ntmps5
    go_upto_region 1 with fail
    rw [← hw1]
    clear hw1
    have run := run_storeAl (unhide KW) noAl none 0 0
    have kk := hide (sv8_heap (unhide KW) (.int .i64 0) (.int .i64 0) (.int .i64 0) (.int .i64 0) (.string ⟨#[]⟩) (.string ⟨#[]⟩) (.string ⟨#[]⟩) (.slice none 0 0))
    have RES := hide (And.intro (show (noAl, (2 : Int)) = raD s from ra_long (unhide HL)) (And.intro (keep_nil w1 w.heap.size) (sv8_below (unhide BW) (Nat.le_refl w.heap.size) (.int .i64 0) (.int .i64 0) (.int .i64 0) (.int .i64 0) (.string ⟨#[]⟩) (.string ⟨#[]⟩) (.string ⟨#[]⟩) (.slice none 0 0))))
    unfold sv8d noAl at run
    simp only at run
    clear KW BW s1 HL
    go_wp2_with (first | (refine al_wpStore rfl (.tmp 2) (.tmp 7) 26 rfl _ _ _ (by simp [Act.eval]) (by simp [Act.eval]) run ?_))
    generalize sv8 _ w.heap.size (.int .i64 0) (.int .i64 0) (.int .i64 0) (.int .i64 0) (.string ⟨#[]⟩) (.string ⟨#[]⟩) (.string ⟨#[]⟩) (.slice none 0 0) = u at *
    have y0 := (heap_at (unhide kk) 0).1
    have y1 := (heap_at (unhide kk) 1).1
    have y2 := (heap_at (unhide kk) 2).1
    have y3 := (heap_at (unhide kk) 3).1
    have y4 := (heap_at (unhide kk) 4).1
    have y5 := (heap_at (unhide kk) 5).1
    have y6 := (heap_at (unhide kk) 6).1
    have y7 := (heap_at (unhide kk) 7).1
    clear run kk
    go_wp2_with fail
    refine bodyPost_ret (v := .tuple #[.agg #[.int .i64 0, .int .i64 0, .int .i64 0, .int .i64 0, .string ⟨#[]⟩, .string ⟨#[]⟩, .string ⟨#[]⟩, .slice none 0 0], .int .i64 2]) (by simp [results, Tryd.results5, go_sem, y0, y1, y2, y3, y4, y5, y6, y7]) rfl ?_
    exact ⟨noAl, none, 0, 0, 2, rfl, (unhide RES).1, keep_nil _ _, (unhide RES).2.2⟩
  have hl2 : (s.size : Int) ≤ 65536 := by omega
  have L1 := hide (hL.wrote (R := w.heap.size) (Wrote.of_below (unhide BW)) h8 h8)
  have C := hide (wordsOf_any s w1 (by omega) (unhide L1).m)
  have HL := hide hlong
  have WN := hide (words_n s (by omega))
  have WZ := hide (words_sz s (by omega))
  clear hlong hL
  go_enter Tryd.func5, Tryd.ntmps5
  go_upto_region 1 with fail
  rw [← hw1]
  clear hw1
  go_wp2_with fail
  refine (unhide C).mono ?_
  rintro e w2 ⟨v, rfl, ho, hb⟩
  obtain ⟨a, c, rfl, hnc, hr, ha⟩ := strowns_parts ho hb.size
  have KW2 := hide ((hb.block _ (al_lt (unhide KW))).trans (unhide KW))
  have BW2 := hide ((unhide BW).trans (hb.mono (unhide BW).size))
  have C2 := hide (actOf_any a (wordsB s).length c (wordsB s) w2 hr hnc (unhide WN) ha (unhide WZ) ((unhide L1).wrote (R := w1.heap.size) (Wrote.of_below hb) (by have := unhide s1; omega) (by have := unhide s1; omega)) (by have := (unhide BW2).size; omega))
  clear KW BW C ho hb ha hr hnc L1 WN WZ
  generalize (wordsB s).length = n at *
  go_wp2_with fail
  refine (unhide C2).mono ?_
  rintro e w3 ⟨⟨d1, d2, d3, d4, d5, d6, d7, d8⟩, ka, km, kc, code, rfl, hac, hko, hb⟩
  simp only [alC]
  have KW3 := hide ((hb.block _ (al_lt (unhide KW2))).trans (unhide KW2))
  have BW3 := hide ((unhide BW2).trans (hb.mono (unhide BW2).size))
  have KO3 := hide (show KeepOwns w3 (w.heap.size + 1) (.slice ka km kc) d8 from ownsRow_down hko (by have := al_lt (unhide KW2); omega))
  have HA2 := hide (show ((⟨d1, d2, d3, d4, d5, d6, d7, d8⟩ : AlD), code) = raD s from by
    rcases hac with ⟨h1, rfl⟩ | ⟨h1, h2, rfl⟩
    · exact ra_some (unhide HL) (by rw [← act_same]; exact h1)
    · rw [h2]; exact ra_none (unhide HL) (by rw [← act_same]; exact h1))
  clear KW2 BW2 C2 hko hb hac HL
  have run := run_storeAl (unhide KW3) ⟨d1, d2, d3, d4, d5, d6, d7, d8⟩ ka km kc
  have kk := hide (sv8_heap (unhide KW3) (.int .i64 d1) (.int .i64 d2) (.int .i64 d3) (.int .i64 d4) (.string d5) (.string d6) (.string d7) (.slice ka km kc))
  have RES := hide (And.intro (show (⟨d1, d2, d3, d4, d5, d6, d7, d8⟩, code) = raD s from unhide HA2) (And.intro (keep_sv8 (unhide KO3) (.int .i64 d1) (.int .i64 d2) (.int .i64 d3) (.int .i64 d4) (.string d5) (.string d6) (.string d7) (.slice ka km kc)) (sv8_below (unhide BW3) (Nat.le_refl w.heap.size) (.int .i64 d1) (.int .i64 d2) (.int .i64 d3) (.int .i64 d4) (.string d5) (.string d6) (.string d7) (.slice ka km kc))))
  unfold sv8d at run
  simp only at run
  clear KW3 BW3 KO3 HA2 s1
  go_wp2_with (first | (refine al_wpStore rfl (.tmp 2) (.tmp 11) 26 rfl _ _ _ (by simp [Act.eval]) (by simp [Act.eval]) run ?_))
  generalize sv8 _ w.heap.size (.int .i64 d1) (.int .i64 d2) (.int .i64 d3) (.int .i64 d4) (.string d5) (.string d6) (.string d7) (.slice ka km kc) = u at *
  have y0 := (heap_at (unhide kk) 0).1
  have y1 := (heap_at (unhide kk) 1).1
  have y2 := (heap_at (unhide kk) 2).1
  have y3 := (heap_at (unhide kk) 3).1
  have y4 := (heap_at (unhide kk) 4).1
  have y5 := (heap_at (unhide kk) 5).1
  have y6 := (heap_at (unhide kk) 6).1
  have y7 := (heap_at (unhide kk) 7).1
  clear run kk
  go_wp2_with fail
  refine bodyPost_ret (v := .tuple #[.agg #[.int .i64 d1, .int .i64 d2, .int .i64 d3, .int .i64 d4, .string d5, .string d6, .string d7, .slice ka km kc], .int .i64 code]) (by simp [results, Tryd.results5, go_sem, y0, y1, y2, y3, y4, y5, y6, y7]) rfl ?_
  exact ⟨⟨d1, d2, d3, d4, d5, d6, d7, d8⟩, ka, km, kc, code, rfl, (unhide RES).1, (unhide RES).2.1, (unhide RES).2.2⟩
end Go.Proofs.YtmogcfiioajaeaaDoor
