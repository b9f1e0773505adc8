/-
  The walks of toBoolS, eqBoolS, markBoolS, heldBoolS over rows that the call owns.
-/
import Derived.Test.YtdajoapbdeplhaaGdA
import Derived.Test.YtdajoapbdeplhaaTakes
import Derived.Deep.RegionWith
namespace Go.Proofs.Ytdajoapbdeplhaa
open Go.RowKit

theorem gd_infoGdO : (Try.prog.info? 4).map (fun i => (i.zero, i.size, i.bytes)) = some (some (Value.bool false), 1, 1) := by kernel_rfl
def boMk (k0 i : Nat) : Bool := (decide ((k0 + i) % 3 = 0))
/-- Marks. -/
def boMks (k0 n : Nat) : List Bool := (List.range n).map (boMk k0)
theorem boMks_len (k0 n : Nat) : (boMks k0 n).length = n := by simp [boMks]
def boFil (d : List Bool) (k : Nat) : List Bool := d.take k ++ List.replicate (d.length - k) false
set_option maxHeartbeats 1000000 in
theorem toBoolS_own (a : Option Addr) (n c : Nat) (d : List Bool) (w : World) (hn : n ≤ 1048576) (hd : d.length = n) (h1 : RowC w (.slice a n c) n (d.map (Value.bool))) :
    Calls Try.prog 27 #[.slice a n c] w fun e w' => e = .returned (.slice (some ⟨w.heap.size, 0, none⟩) n n) ∧ w'.ownsRow w.heap.size 4 1 (.slice (some ⟨w.heap.size, 0, none⟩) n n) n (d.map (Value.bool)) ∧ Below w.heap.size w w' := by
  obtain ⟨i0, hi, hz0, hz1, hz2⟩ := info_parts gd_infoGdO
  have H1 := hide h1
  have L := hide hd
  clear h1 hd
  go_enter Try.func27, Try.ntmps27
  go_wp2_with (at_make; refine wpList_make_full _ rfl _ _ 23 rfl w.heap.size 4 i0 (Value.bool false) 1 Try.underlying23 hi hz0 hz1 _ _ _ _ n rfl rfl rfl rfl (by rw [hz2]; omega) (by unfold maxLen; omega) (Nat.le_refl _) ?_)
  intro w1 hown hgrow
  rw [toList_madeCells_one] at hown
  have hbel : Below w.heap.size w w1 := (Below.refl _ _).grown hgrow (Nat.le_refl _) (fun k hk => by cases hk)
  have H0 := hide (show w1.ownsRow w.heap.size 4 1 (.slice (some ⟨w.heap.size, 0, none⟩) n n) n ((boFil d 0).map (Value.bool)) by unfold boFil; rw [List.take_zero, List.nil_append, Nat.sub_zero, List.map_replicate, unhide L]; exact hown)
  clear hown hgrow
  go_wp2_with fail
  go_loopw [4] (fun i wr => ∃ k : Nat, k ≤ n ∧ i = .int .i64 k ∧ Hid (wr.ownsRow w.heap.size 4 1 (.slice (some ⟨w.heap.size, 0, none⟩) n n) n ((boFil d k).map (Value.bool))) ∧ Below w.heap.size w wr) (fun i _ => n - (intOf i).toNat)
  case atStart => exact ⟨0, Nat.zero_le _, rfl, unhide H0, hbel⟩
  case round =>
    clear H0 hbel
    obtain ⟨k, hk, rfl, ho, hb⟩ := hrel
    by_cases hlt : k < n
    · have hkd : k < d.length := by rw [unhide L]; exact hlt
      obtain ⟨b, off, rfl, e1⟩ := (unhide H1).at (j := k) (u := Value.bool d[k]) (by simp [hkd])
      have e2 := (hb.cell (p := ⟨b, off + k, none⟩) (cell_lt e1)).trans e1
      obtain ⟨u3, e3⟩ := rb_ownsRow_some (unhide ho) (j := k) (by omega)
      have e4 := (unhide ho).frozenAt k
      have R := hide (show (wr.setCell ⟨w.heap.size, k, none⟩ (Value.bool d[k])).ownsRow w.heap.size 4 1 (.slice (some ⟨w.heap.size, 0, none⟩) n n) n ((boFil d (k + 1)).map (Value.bool)) by
        have h := (World.ownsRow.stored (unhide ho) k (Value.bool d[k])).1
        rw [← List.map_set] at h
        have e : (boFil d k).set k d[k] = boFil d (k + 1) := rb_fil_set d false k hkd
        rwa [e] at h)
      have R2 := hide (hb.setCell (p := ⟨w.heap.size, k, none⟩) (Nat.le_refl _) (Value.bool d[k]))
      clear e1 ho hb
      generalize d[k] = x at *
      go_wp2_with fail
      go_roundw
      case rel => exact ⟨k + 1, by omega, by go_num, unhide R, unhide R2⟩
      case measure => simp [intOf]; omega
    · obtain rfl : k = n := by omega
      have Z := hide (show wr.ownsRow w.heap.size 4 1 (.slice (some ⟨w.heap.size, 0, none⟩) k k) k (d.map (Value.bool)) by
        have h := unhide ho
        unfold boFil at h
        rwa [List.take_of_length_le (by rw [unhide L]; exact Nat.le_refl _), unhide L, Nat.sub_self, List.replicate_zero, List.append_nil] at h)
      go_wp2_with fail
      go_ret
      exact ⟨rfl, unhide Z, hb⟩
theorem gd_eqlb (x : Bool) (w : World) : (binOp .neq 4 (.bool x) (.bool x)).run Try.prog w = .ok (.bool false) w := by cases x <;> kernel_rfl
set_option maxHeartbeats 1000000 in
theorem eqBoolS_C (a1 a2 : Option Addr) (n c1 c2 : Nat) (d : List Bool) (w : World) (hn : n ≤ maxLen) (hd : d.length = n) (h1 : RowC w (.slice a1 n c1) n (d.map (Value.bool))) (h2 : RowC w (.slice a2 n c2) n (d.map (Value.bool))) :
    Calls Try.prog 31 #[.slice a1 n c1, .slice a2 n c2] w fun e w' => e = .returned (.bool true) ∧ Below w.heap.size w w' := by
  unfold maxLen at hn
  have H1 := hide h1
  have H2 := hide h2
  have L := hide hd
  clear h1 h2 hd
  go_enter Try.func31, Try.ntmps31
  go_wp2_with fail
  go_loopw [5] (fun i wr => ∃ k : Nat, k ≤ n ∧ i = .int .i64 k ∧ ∃ q, wr = w.drewN q) (fun i _ => n - (intOf i).toNat)
  case atStart => exact ⟨0, Nat.zero_le _, rfl, 0, rfl⟩
  case round =>
    obtain ⟨k, hk, rfl, q, rfl⟩ := hrel
    by_cases hlt : k < n
    · have hkd : k < d.length := by rw [unhide L]; exact hlt
      obtain ⟨b1, o1, rfl, e1⟩ := (unhide H1).at (j := k) (u := Value.bool d[k]) (by simp [hkd])
      obtain ⟨b2, o2, rfl, e2⟩ := (unhide H2).at (j := k) (u := Value.bool d[k]) (by simp [hkd])
      generalize d[k] = x at *
      have heq : ∀ w, (binOp .neq 4 (.bool x) (.bool x)).run Try.prog w = .ok (.bool false) w := gd_eqlb x
      go_wp2_with fail
      go_quiet (fail)
      go_wp2_with fail
      go_roundw
      case rel => exact ⟨k + 1, by omega, by go_num, _, rfl⟩
      case measure => simp [intOf]; omega
    · obtain rfl : k = n := by omega
      go_wp2_with fail
      go_ret
      exact ⟨rfl, bel_drewN (Below.refl _ _) _⟩
theorem bo_set (k0 k : Nat) : (.bool (decide (((k0 : Int) + k) % 3 = 0))) = Value.bool (boMk k0 k) := by unfold boMk; congr 1; rw [decide_eq_decide]; omega
set_option maxHeartbeats 1000000 in
theorem gd_markBoolS_some (B g n c k0 : Nat) (d : List Bool) (w : World) (hn : n + k0 ≤ 100000000) (hd : d.length = n) (h1 : w.ownsRow B 4 1 (.slice (some ⟨g, 0, none⟩) n c) n (d.map (Value.bool))) :
    Calls Try.prog 44 #[.slice (some ⟨g, 0, none⟩) n c, .int .i64 (k0 : Int)] w fun e w' => e = .returned (.int .i64 ((k0 + n : Nat) : Int)) ∧ w'.ownsRow B 4 1 (.slice (some ⟨g, 0, none⟩) n c) n ((boMks k0 n).map (Value.bool)) ∧ WrB (fun i => i = g) w w' := by
  have H := hide h1
  have L := hide hd
  clear h1 hd
  go_enter Try.func44, Try.ntmps44
  go_wp2_with fail
  go_loopw [1, 5] (fun q i wr => ∃ k : Nat, k ≤ n ∧ i = .int .i64 k ∧ q = .int .i64 ((k0 : Int) + k) ∧ Hid (wr.ownsRow B 4 1 (.slice (some ⟨g, 0, none⟩) n c) n ((boMks k0 k ++ d.drop k).map (Value.bool))) ∧ Hid (WrB (fun i => i = g) w wr)) (fun _ i _ => n - (intOf i).toNat)
  case atStart => exact ⟨0, Nat.zero_le _, rfl, by simp, unhide H, WrB.same _ _⟩
  case round =>
    clear H
    obtain ⟨k, hk, rfl, rfl, ho, hw⟩ := hrel
    by_cases hlt : k < n
    · have hkd : k < d.length := by rw [unhide L]; exact hlt
      obtain ⟨u3, e3⟩ := rb_ownsRow_some (unhide ho) (j := k) (by omega)
      have e4 := (unhide ho).frozenAt k
      have R := hide (show (wr.setCell ⟨g, k, none⟩ (.bool (decide (((k0 : Int) + k) % 3 = 0)))).ownsRow B 4 1 (.slice (some ⟨g, 0, none⟩) n c) n ((boMks k0 (k + 1) ++ d.drop (k + 1)).map (Value.bool)) by
        have h := (World.ownsRow.stored (unhide ho) k (Value.bool (boMk k0 k))).1
        rw [← List.map_set] at h
        have e : (boMks k0 k ++ d.drop k).set k (boMk k0 k) = boMks k0 (k + 1) ++ d.drop (k + 1) := rb_set_mark (boMk k0) d k hkd
        rw [e, ← bo_set] at h
        exact h)
      have R2 := hide ((unhide hw).seq (show WrB (fun i => i = g) wr (wr.setCell ⟨g, k, none⟩ (.bool (decide (((k0 : Int) + k) % 3 = 0)))) from ⟨rfl, rfl, rfl, by simp [World.setCell], fun k _ hk => Below.heap_setCell _ _ _ _ hk⟩))
      clear ho hw
      go_wp2_with fail
      all_goals
        go_roundw
        case rel => exact ⟨k + 1, by omega, by go_num, by go_num, unhide R, unhide R2⟩
        case measure => simp [intOf]; omega
    · obtain rfl : k = n := by omega
      have Z := hide (show wr.ownsRow B 4 1 (.slice (some ⟨g, 0, none⟩) k c) k ((boMks k0 k).map (Value.bool)) by
        have h := unhide ho
        rwa [List.drop_of_length_le (by rw [unhide L]; exact Nat.le_refl _), List.append_nil] at h)
      go_wp2_with fail
      go_ret
      exact ⟨ret_int (by omega), unhide Z, unhide hw⟩
theorem gd_markBoolS_nil (k0 : Int) (w : World) : Calls Try.prog 44 #[.slice none 0 0, .int .i64 k0] w fun e w' => e = .returned (.int .i64 k0) ∧ w' = w := by
  go_enter Try.func44, Try.ntmps44
  go_wp2_with fail
  refine wp_loop_rounds 1 ?_
  rw [rounds_succ]
  go_wp2_with fail
  go_ret
  exact ⟨rfl, rfl⟩
theorem markBoolS_own (B : Nat) (a : Option Addr) (n c k0 : Nat) (d : List Bool) (w : World) (hn : n + k0 ≤ 100000000) (hd : d.length = n) (h1 : w.ownsRow B 4 1 (.slice a n c) n (d.map (Value.bool))) :
    Calls Try.prog 44 #[.slice a n c, .int .i64 (k0 : Int)] w fun e w' => e = .returned (.int .i64 ((k0 + n : Nat) : Int)) ∧ w'.ownsRow B 4 1 (.slice a n c) n ((boMks k0 n).map (Value.bool)) ∧ WrB (fun i => (Value.slice a n c).ownBlock = some i) w w' := by
  rcases h1.2 with ⟨e, hl⟩ | ⟨g, cap, cur, e, _⟩
  · injection e with e1 e2 e3
    subst e1 e2 e3
    refine (gd_markBoolS_nil k0 w).mono ?_
    rintro e w' ⟨rfl, rfl⟩
    exact ⟨rfl, World.ownsRow_nil _ _ _ _, WrB.same _ _⟩
  · injection e with e1 e2 e3
    subst e1
    refine (gd_markBoolS_some B g n c k0 d w hn hd h1).mono ?_
    rintro e w' ⟨rfl, h2, h3⟩
    exact ⟨rfl, h2, h3.weak (fun i hi => by rw [hi]; rfl)⟩
end Go.Proofs.Ytdajoapbdeplhaa
