/-
  Acts of which flags hang: compared, marked, held.
-/
import Derived.Test.YtmogcfiioajaeaaDoorAlY
import Derived.BigQuiet
namespace Go.Proofs.YtmogcfiioajaeaaDoor
open Go.RowKit

theorem keep_n {w : World} {B n c : Nat} {a : Option Addr} {fs : List Bool} (h : KeepOwns w B (.slice a n c) fs) : n = fs.length := by
  rcases h.2 with ⟨e, hn⟩ | ⟨g, cap, cur, e, _⟩
  · injection e with _ e _; omega
  · injection e with _ e _
theorem keep_form {w : World} {B n c : Nat} {a : Option Addr} {fs : List Bool} (h : KeepOwns w B (.slice a n c) fs) (h0 : 0 < n) : ∃ g, a = some ⟨g, 0, none⟩ ∧ B ≤ g ∧ g < w.heap.size := by
  rcases h.2 with ⟨e, hn⟩ | ⟨g, cap, cur, e, hb, hh, _⟩
  · injection e with _ e _; omega
  · injection e with e _ _
    exact ⟨g, e, hb, al_lt hh⟩
theorem keep_at {w : World} {B g n c : Nat} {fs : List Bool} (h : KeepOwns w B (.slice (some ⟨g, 0, none⟩) n c) fs) (i : Nat) (hi : i < fs.length) : w.cell? ⟨g, i, none⟩ = some (.bool fs[i]) := by
  obtain rfl := keep_n h
  refine (World.ownsRow.cellAt h i (by omega)).trans ?_
  rw [List.getElem?_map, List.getElem?_eq_getElem hi]
  rfl
theorem keep_fz {w : World} {B g n c : Nat} {fs : List Bool} (h : KeepOwns w B (.slice (some ⟨g, 0, none⟩) n c) fs) (j : Nat) : w.frozen? ⟨g, j, none⟩ = false := by
  obtain rfl := keep_n h
  exact World.ownsRow.frozenAt h j
theorem keep_store {w : World} {B g n c : Nat} {fs : List Bool} (h : KeepOwns w B (.slice (some ⟨g, 0, none⟩) n c) fs) (i : Nat) (d : Bool) : KeepOwns (w.setCell ⟨g, i, none⟩ (.bool d)) B (.slice (some ⟨g, 0, none⟩) n c) (fs.set i d) := by
  obtain rfl := keep_n h
  obtain ⟨o1, _⟩ := World.ownsRow.stored h i (.bool d)
  unfold KeepOwns
  rw [List.map_set, List.length_set]
  exact o1
theorem Tryd.eqlbK (x : Bool) (w : World) : (binOp .neq 4 (.bool x) (.bool x)).run Tryd.prog w = .ok (.bool false) w := by cases x <;> kernel_rfl
set_option maxHeartbeats 400000 in
theorem eqK_any (B1 B2 : Nat) (a1 a2 : Option Addr) (n1 n2 c1 c2 : Nat) (fs : List Bool) (w : World) (h1 : KeepOwns w B1 (.slice a1 n1 c1) fs) (h2 : KeepOwns w B2 (.slice a2 n2 c2) fs) (hl : fs.length ≤ 1000000) :
    Calls Tryd.prog 14 #[.slice a1 n1 c1, .slice a2 n2 c2] w fun e w' => e = .returned (.bool true) ∧ Below w.heap.size w w' := by
  obtain rfl := keep_n h1
  obtain rfl := keep_n h2
  have H1 := hide (show ∀ i (hi : i < fs.length), ∃ g, a1 = some ⟨g, 0, none⟩ ∧ w.cell? ⟨g, i, none⟩ = some (.bool fs[i]) from fun i hi => by
    obtain ⟨g, rfl, _⟩ := keep_form h1 (by omega)
    exact ⟨g, rfl, keep_at h1 i hi⟩)
  have H2 := hide (show ∀ i (hi : i < fs.length), ∃ g, a2 = some ⟨g, 0, none⟩ ∧ w.cell? ⟨g, i, none⟩ = some (.bool fs[i]) from fun i hi => by
    obtain ⟨g, rfl, _⟩ := keep_form h2 (by omega)
    exact ⟨g, rfl, keep_at h2 i hi⟩)
  clear h1 h2
  go_enter Tryd.func14, Tryd.ntmps14
  go_wp2_with fail
  go_loopw [5] (fun i wr => ∃ k : Nat, k ≤ fs.length ∧ i = .int .i64 k ∧ ∃ d, wr = w.drewN d) (fun i _ => fs.length - (intOf i).toNat)
  case atStart => exact ⟨0, Nat.zero_le _, rfl, 0, rfl⟩
  case round =>
    obtain ⟨k, hk, rfl, d, rfl⟩ := hrel
    by_cases hlt : k < fs.length
    · obtain ⟨g1, rfl, e1⟩ := unhide H1 k hlt
      obtain ⟨g2, rfl, e2⟩ := unhide H2 k hlt
      generalize fs[k] = x at *
      go_wp2_with fail
      go_quiet (fail)
      go_wp2_with fail
      go_roundw
      case rel => exact ⟨k + 1, by omega, by go_num, _, rfl⟩
      case measure => simp [intOf]; omega
    · obtain rfl : k = fs.length := by omega
      go_wp2_with fail
      go_ret
      exact ⟨rfl, bel_drewN (Below.refl _ _) _⟩
def mkF (k0 i : Nat) : Bool := decide ((k0 + i) % 3 = 0)
def mkL (k0 n : Nat) : List Bool := (List.range n).map (mkF k0)
theorem mk_rem (k0 i : Nat) : (((k0 : Int) + (i : Int)) % 3 == 0) = mkF k0 i := by
  unfold mkF
  rw [Bool.eq_iff_iff, beq_iff_eq, decide_eq_true_iff]
  omega
set_option maxHeartbeats 400000 in
theorem markK_any (B : Nat) (a : Option Addr) (n c k0 : Nat) (fs : List Bool) (w : World) (h : KeepOwns w B (.slice a n c) fs) (hl : fs.length ≤ 1000000) (hk0 : k0 ≤ 1000) :
    Calls Tryd.prog 15 #[.slice a n c, .int .i64 (k0 : Nat)] w fun e w' => e = .returned (.int .i64 ((k0 + n : Nat) : Int)) ∧ KeepOwns w' B (.slice a n c) (mkL k0 n) ∧ Wr (fun i => (Value.slice a n c).ownBlock = some i) w w' := by
  obtain rfl := keep_n h
  have KO := hide h
  clear h
  go_enter Tryd.func15, Tryd.ntmps15
  go_wp2_with fail
  go_loopw [1, 5] (fun q i wr => ∃ k : Nat, k ≤ fs.length ∧ i = .int .i64 k ∧ q = .int .i64 ((k0 + k : Nat) : Int) ∧ Hid (KeepOwns wr B (.slice a fs.length c) ((List.range k).map (mkF k0) ++ fs.drop k)) ∧ Hid (Wr (fun i => (Value.slice a fs.length c).ownBlock = some i) w wr)) (fun _ i _ => fs.length - (intOf i).toNat)
  case atStart => exact ⟨0, Nat.zero_le _, rfl, rfl, by simpa using KO, hide ⟨rfl, rfl, rfl, Nat.le_refl _, fun _ _ _ => rfl⟩⟩
  case round =>
    obtain ⟨k, hk, rfl, rfl, KW, HW⟩ := hrel
    by_cases hlt : k < fs.length
    · obtain ⟨g, rfl, _⟩ := keep_form (unhide KW) (by omega)
      have e1 := keep_at (unhide KW) k (by simp; omega)
      have e2 := keep_fz (unhide KW) k
      generalize ((List.range k).map (mkF k0) ++ fs.drop k)[k]'(by simp; omega) = x at *
      have RR := hide (And.intro (show KeepOwns (wr.setCell ⟨g, k, none⟩ (.bool (mkF k0 k))) B (.slice (some ⟨g, 0, none⟩) fs.length c) ((List.range (k + 1)).map (mkF k0) ++ fs.drop (k + 1)) by rw [← rb_set_mark (mkF k0) fs k hlt]; exact keep_store (unhide KW) k _) (show Wr (fun i => (Value.slice (some ⟨g, 0, none⟩) fs.length c).ownBlock = some i) w (wr.setCell ⟨g, k, none⟩ (.bool (mkF k0 k))) from (unhide HW).trans ⟨rfl, rfl, rfl, by simp [World.setCell], fun i _ hi => Below.heap_setCell _ _ _ _ (fun e => hi (by rw [e]; rfl))⟩))
      have hm := mk_rem k0 k
      clear KW HW KO
      go_wp2_with fail
      go_roundw
      case rel => exact ⟨k + 1, by omega, by go_num, by go_num, hide (unhide RR).1, hide (unhide RR).2⟩
      case measure => simp [intOf]; omega
    · obtain rfl : k = fs.length := by omega
      have RES := hide (And.intro (show KeepOwns wr B (.slice a fs.length c) (mkL k0 fs.length) by unfold mkL; simpa using unhide KW) (unhide HW))
      clear KW HW KO
      go_wp2_with fail
      go_ret
      exact ⟨rfl, (unhide RES).1, (unhide RES).2⟩
set_option maxHeartbeats 400000 in
theorem heldK_any (B : Nat) (a : Option Addr) (n c k0 : Nat) (w : World) (h : KeepOwns w B (.slice a n c) (mkL k0 n)) (hl : n ≤ 1000000) (hk0 : k0 ≤ 1000) :
    Calls Tryd.prog 16 #[.slice a n c, .int .i64 (k0 : Nat)] w fun e w' => e = .returned (.int .i64 ((k0 + n : Nat) : Int)) ∧ w' = w := by
  have KO := hide h
  clear h
  have eqb := Tryd.eqlbK
  go_enter Tryd.func16, Tryd.ntmps16
  go_wp2_with fail
  go_loopw [1, 5] (fun q i wr => ∃ k : Nat, k ≤ n ∧ i = .int .i64 k ∧ q = .int .i64 ((k0 + k : Nat) : Int) ∧ wr = w) (fun _ i _ => n - (intOf i).toNat)
  case atStart => exact ⟨0, Nat.zero_le _, rfl, rfl, rfl⟩
  case round =>
    obtain ⟨k, hk, rfl, rfl, rfl⟩ := hrel
    by_cases hlt : k < n
    · obtain ⟨g, rfl, _⟩ := keep_form (unhide KO) (by omega)
      have e1 := keep_at (unhide KO) k (by simp [mkL]; exact hlt)
      rw [show (mkL k0 n)[k]'(by simp [mkL]; exact hlt) = mkF k0 k from by simp [mkL]] at e1
      have hm := mk_rem k0 k
      clear KO
      generalize mkF k0 k = x at *
      go_wp2_with fail
      go_roundw
      case rel => exact ⟨k + 1, by omega, by go_num, by go_num, trivial⟩
      case measure => simp [intOf]; omega
    · obtain rfl : k = n := by omega
      clear KO
      go_wp2_with fail
      go_ret
      exact ⟨rfl, rfl⟩
theorem eqTx_any (tk ts : Int) (key to val : ByteArray) (w : World) :
    Calls Tryd.prog 13 #[.agg #[.int .i64 tk, .int .i64 ts, .string key, .string to, .string val], .agg #[.int .i64 tk, .int .i64 ts, .string key, .string to, .string val]] w fun e w' => e = .returned (.bool true) ∧ Below w.heap.size w w' := by
  have b1 := hide (((Below.refl w.heap.size w).alloc (Nat.le_refl _) (.cells #[.int .i64 tk, .int .i64 ts, .string key, .string to, .string val] 23)).alloc (by simp) (.cells #[.int .i64 tk, .int .i64 ts, .string key, .string to, .string val] 23))
  go_enter Tryd.func13, Tryd.ntmps13
  go_wp2_with fail
  go_ret
  exact ⟨rfl, unhide b1⟩
set_option maxHeartbeats 2000000 in
theorem eqAct_any (B1 B2 : Nat) (d : AlD) (a1 a2 : Option Addr) (n1 n2 c1 c2 : Nat) (w : World) (h1 : KeepOwns w B1 (.slice a1 n1 c1) d.keep) (h2 : KeepOwns w B2 (.slice a2 n2 c2) d.keep) (hl : d.keep.length ≤ 1000000) :
    Calls Tryd.prog 6 #[.agg (alC d (.slice a1 n1 c1)), .agg (alC d (.slice a2 n2 c2))] w fun e w' => e = .returned (.bool true) ∧ Below w.heap.size w w' := by
  obtain ⟨d1, d2, d3, d4, d5, d6, d7, d8⟩ := d
  simp only [alC]
  simp only at h1 h2 hl
  obtain ⟨w1, hw1⟩ : ∃ w1, w1 = (w.alloc (.cells #[.int .i64 d1, .int .i64 d2, .int .i64 d3, .int .i64 d4, .string d5, .string d6, .string d7, .slice a1 n1 c1] 26)).alloc (.cells #[.int .i64 d1, .int .i64 d2, .int .i64 d3, .int .i64 d4, .string d5, .string d6, .string d7, .slice a2 n2 c2] 26) := ⟨_, rfl⟩
  have b1 : Below w.heap.size w w1 := by rw [hw1]; exact ((Below.refl w.heap.size w).alloc (Nat.le_refl _) _).alloc (by simp) _
  have k1 := hide (show w1.heap[w.heap.size]? = some (.cells #[.int .i64 d1, .int .i64 d2, .int .i64 d3, .int .i64 d4, .string d5, .string d6, .string d7, .slice a1 n1 c1] 26 (0, 0)) from by rw [hw1, (((Below.refl _ (w.alloc (.cells #[.int .i64 d1, .int .i64 d2, .int .i64 d3, .int .i64 d4, .string d5, .string d6, .string d7, .slice a1 n1 c1] 26))).alloc (Nat.le_refl _) _).block w.heap.size (by simp))]; exact heap_alloc_new _ _)
  have k2 := hide (show w1.heap[w.heap.size + 1]? = some (.cells #[.int .i64 d1, .int .i64 d2, .int .i64 d3, .int .i64 d4, .string d5, .string d6, .string d7, .slice a2 n2 c2] 26 (0, 0)) from by rw [hw1, show w.heap.size + 1 = (w.alloc (.cells #[.int .i64 d1, .int .i64 d2, .int .i64 d3, .int .i64 d4, .string d5, .string d6, .string d7, .slice a1 n1 c1] 26)).heap.size by simp]; exact heap_alloc_new _ _)
  have B1' := hide b1
  have KO1 := hide (show KeepOwns w1 B1 (.slice a1 n1 c1) d8 from ownsRow_heap h1 (fun g hg => b1.block g (World.ownsRow.lt h1 g hg).2))
  have KO2 := hide (show KeepOwns w1 B2 (.slice a2 n2 c2) d8 from ownsRow_heap h2 (fun g hg => b1.block g (World.ownsRow.lt h2 g hg).2))
  have CT := hide (eqTx_any d3 d4 d5 d6 d7 w1)
  clear h1 h2 b1
  go_enter Tryd.func6, Tryd.ntmps6
  go_upto_region 1 with fail
  rw [← hw1]
  clear hw1
  generalize w.heap.size + 1 = q at *
  have z0 := (heap_at (unhide k1) 0).1
  have v0 := (heap_at (unhide k2) 0).1
  have z1 := (heap_at (unhide k1) 1).1
  have v1 := (heap_at (unhide k2) 1).1
  have z2 := (heap_at (unhide k1) 2).1
  have v2 := (heap_at (unhide k2) 2).1
  have z3 := (heap_at (unhide k1) 3).1
  have v3 := (heap_at (unhide k2) 3).1
  have z4 := (heap_at (unhide k1) 4).1
  have v4 := (heap_at (unhide k2) 4).1
  have z5 := (heap_at (unhide k1) 5).1
  have v5 := (heap_at (unhide k2) 5).1
  have z6 := (heap_at (unhide k1) 6).1
  have v6 := (heap_at (unhide k2) 6).1
  go_wp2_with fail
  refine (unhide CT).mono ?_
  rintro e w2 ⟨rfl, hb⟩
  have k3 := hide ((hb.block _ (al_lt (unhide k1))).trans (unhide k1))
  have k4 := hide ((hb.block _ (al_lt (unhide k2))).trans (unhide k2))
  have KO3 := hide (show KeepOwns w2 B1 (.slice a1 n1 c1) d8 from ownsRow_heap (unhide KO1) (fun g hg => hb.block g (World.ownsRow.lt (unhide KO1) g hg).2))
  have KO4 := hide (show KeepOwns w2 B2 (.slice a2 n2 c2) d8 from ownsRow_heap (unhide KO2) (fun g hg => hb.block g (World.ownsRow.lt (unhide KO2) g hg).2))
  have BB := hide ((unhide B1').trans (hb.mono (unhide B1').size))
  have CK := hide (eqK_any B1 B2 a1 a2 n1 n2 c1 c2 d8 w2 (unhide KO3) (unhide KO4) hl)
  clear CT hb k1 k2 KO1 KO2 B1' KO3 KO4 z0 v0 z1 v1 z2 v2 z3 v3 z4 v4 z5 v5 z6 v6
  have z7 := (heap_at (unhide k3) 7).1
  have v7 := (heap_at (unhide k4) 7).1
  clear k3 k4
  go_wp2_with fail
  refine (unhide CK).mono ?_
  rintro e w3 ⟨rfl, hb⟩
  have RES := hide ((unhide BB).trans (hb.mono (unhide BB).size))
  clear CK hb z7 v7 BB
  go_wp2_with fail
  go_ret
  exact ⟨rfl, unhide RES⟩
set_option maxHeartbeats 2000000 in
theorem markAct_any (B : Nat) (d1 d2 d3 d4 : Int) (d5 d6 d7 : ByteArray) (a : Option Addr) (n c k0 : Nat) (fs : List Bool) (w : World) (h : KeepOwns w B (.slice a n c) fs) (hl : fs.length ≤ 1000000) (hk0 : k0 ≤ 1000) :
    Calls Tryd.prog 7 #[.agg #[.int .i64 d1, .int .i64 d2, .int .i64 d3, .int .i64 d4, .string d5, .string d6, .string d7, .slice a n c], .int .i64 (k0 : Nat)] w fun e w' => e = .returned (.int .i64 ((k0 + n : Nat) : Int)) ∧ KeepOwns w' B (.slice a n c) (mkL k0 n) ∧ ∃ w1, Below w.heap.size w w1 ∧ Wr (fun i => (Value.slice a n c).ownBlock = some i) w1 w' := by
  obtain ⟨w1, hw1⟩ : ∃ w1, w1 = w.alloc (.cells #[.int .i64 d1, .int .i64 d2, .int .i64 d3, .int .i64 d4, .string d5, .string d6, .string d7, .slice a n c] 26) := ⟨_, rfl⟩
  have b1 : Below w.heap.size w w1 := by rw [hw1]; exact (Below.refl w.heap.size w).alloc (Nat.le_refl _) _
  have k1 : w1.heap[w.heap.size]? = some (.cells #[.int .i64 d1, .int .i64 d2, .int .i64 d3, .int .i64 d4, .string d5, .string d6, .string d7, .slice a n c] 26 (0, 0)) := by rw [hw1]; exact heap_alloc_new _ _
  have z7 := (heap_at k1 7).1
  have BB := hide b1
  have C := hide (markK_any B a n c k0 fs w1 (ownsRow_heap h (fun g hg => b1.block g (World.ownsRow.lt h g hg).2)) hl hk0)
  clear b1 k1 h hl
  go_enter Tryd.func7, Tryd.ntmps7
  go_upto_region 1 with fail
  rw [← hw1]
  clear hw1
  go_wp2_with fail
  refine (unhide C).mono ?_
  rintro e w2 ⟨rfl, hk, hw⟩
  have RES := hide (And.intro hk hw)
  clear C hk hw z7
  go_wp2_with fail
  go_ret
  exact ⟨rfl, (unhide RES).1, w1, unhide BB, (unhide RES).2⟩
set_option maxHeartbeats 2000000 in
theorem heldAct_any (B : Nat) (d1 d2 d3 d4 : Int) (d5 d6 d7 : ByteArray) (a : Option Addr) (n c k0 : Nat) (w : World) (h : KeepOwns w B (.slice a n c) (mkL k0 n)) (hl : n ≤ 1000000) (hk0 : k0 ≤ 1000) :
    Calls Tryd.prog 8 #[.agg #[.int .i64 d1, .int .i64 d2, .int .i64 d3, .int .i64 d4, .string d5, .string d6, .string d7, .slice a n c], .int .i64 (k0 : Nat)] w fun e w' => e = .returned (.int .i64 ((k0 + n : Nat) : Int)) ∧ Below w.heap.size w w' := by
  obtain ⟨w1, hw1⟩ : ∃ w1, w1 = w.alloc (.cells #[.int .i64 d1, .int .i64 d2, .int .i64 d3, .int .i64 d4, .string d5, .string d6, .string d7, .slice a n c] 26) := ⟨_, rfl⟩
  have b1 : Below w.heap.size w w1 := by rw [hw1]; exact (Below.refl w.heap.size w).alloc (Nat.le_refl _) _
  have k1 : w1.heap[w.heap.size]? = some (.cells #[.int .i64 d1, .int .i64 d2, .int .i64 d3, .int .i64 d4, .string d5, .string d6, .string d7, .slice a n c] 26 (0, 0)) := by rw [hw1]; exact heap_alloc_new _ _
  have z7 := (heap_at k1 7).1
  have BB := hide b1
  have C := hide (heldK_any B a n c k0 w1 (ownsRow_heap h (fun g hg => b1.block g (World.ownsRow.lt h g hg).2)) hl hk0)
  clear b1 k1 h hl
  go_enter Tryd.func8, Tryd.ntmps8
  go_upto_region 1 with fail
  rw [← hw1]
  clear hw1
  go_wp2_with fail
  refine (unhide C).mono ?_
  rintro e w2 ⟨rfl, rfl⟩
  clear C z7
  have hnn : ¬ ((k0 : Int) + (n : Int) < 0) := by omega
  go_wp2_with fail
  go_ret
  exact ⟨rfl, unhide BB⟩
end Go.Proofs.YtmogcfiioajaeaaDoor
