/-
  The walk of the method bytes of sectors.
-/
import Derived.Test.YtdiakahaghggiaaDevA
import Derived.Test.YtdiakahaghggiaaBuf
import Derived.Deep.WholeRow
namespace Go.Proofs.Ytdiakahaghggiaa
open Go.RowKit Go.Maps

/-- The law of a sector that is laid into the box that was made last. -/
theorem wpList_box (w : World) {ops : Array Oper} {rest : List Oper} {o : Oper} {a : Act} {Q : Exit → Act → World → Prop} (hg : o.guard = none) (x y : Operand) (hop : o.op = Op.store 90 x y) (c c' : Array Value)
    (hx : a.eval x = .pointer (some ⟨w.heap.size, 0, none⟩)) (hy : a.eval y = .agg c') (hc : c.size = 16) (hc' : c'.size = 16) (h1 : c'.all (·.oneCell') = true)
    (hK : wpList Try.prog ops Q rest (a.put o.dst undef) (w.alloc (.cells c' 90))) : wpList Try.prog ops Q (o :: rest) a (w.alloc (.cells c 90)) := by
  refine wpList_plain hg fun K' hK' => ?_
  have hrun := run_storeAt_new (P := Try.prog) w 90 c c' (by rw [sec_info, hc']) (by rw [hc, hc']) h1
  unfold Oper.wp
  simp [execOp, hop, hx, hy, hrun, Result.andThen]
  exact hK' _ _ hK
theorem sec_one (s : List Int) : ((s.map (Value.int .u8)).toArray).all (·.oneCell') = true := all_oneCell_toArray (all_u8 s)
theorem secBytes_step (c k : Nat) (f : Nat → List Int) (h : ∀ i, (f i).length = 16) (hk : k < c) : putB (secBytes k f ++ List.replicate ((c - k) * 16) 0) (k * 16) (f k) = secBytes (k + 1) f ++ List.replicate ((c - (k + 1)) * 16) 0 := by
  have hl := secBytes_len f h k
  have e : secBytes (k + 1) f = secBytes k f ++ f k := by
    unfold secBytes
    rw [List.range_succ, List.flatMap_append]; simp
  unfold putB
  rw [e, List.take_append_of_le_length (by omega), List.take_of_length_le (by omega), h k, List.drop_append, List.drop_eq_nil_of_le (by omega), List.nil_append, hl, List.drop_replicate]
  congr 2
  omega
set_option maxRecDepth 100000 in
set_option maxHeartbeats 2000000 in
theorem bytes_any (p o m N c : Nat) (f : Nat → List Int) (w : World) (hm : SecMap w m N f) (h16 : ∀ i, (f i).length = 16) (hc : c ≤ 128) (c0 : w.cell? ⟨p, o, none⟩ = some (.int .i64 (c : Int))) (c1 : w.cell? ⟨p, o + 1, none⟩ = some (.map (some m))) :
    Calls Try.prog 43 #[.pointer (some ⟨p, o, none⟩)] w fun e w' => e = .returned (.slice (some ⟨w.heap.size, 0, none⟩) (c * 16) (c * 16)) ∧ Mine w' w.heap.size (.slice (some ⟨w.heap.size, 0, none⟩) (c * 16) (c * 16)) (secBytes c f) ∧ Below w.heap.size w w' := by
  obtain ⟨i0, hi, hz0, hz1, hz2⟩ := info_parts Try.infoU8
  have hl : p < w.heap.size := cell_lt c0
  have HM := hide hm
  have H16 := hide h16
  clear hm h16
  go_enter Try.func43, Try.ntmps43
  go_wp2_with (at_make; refine wpList_make_full _ rfl _ _ 22 rfl w.heap.size 5 i0 (.int .u8 0) 1 Try.underlying22 hi hz0 hz1 _ _ _ _ (c * 16) rfl rfl (by go_num) rfl (by rw [hz2]; omega) (by unfold maxLen; omega) (Nat.le_refl _) ?_)
  intro w1 hown hgrow
  rw [toList_madeCells_one] at hown
  have hbel : Below w.heap.size w w1 := (Below.refl _ _).grown hgrow (Nat.le_refl _) (fun k hk => by cases hk)
  have hB := buf_made hown
  clear hown hgrow
  have d0 := (hbel.cell (p := ⟨p, o, none⟩) hl).trans c0
  go_wp2_with fail
  clear d0 c0
  go_loopw [16] (fun i wr => ∃ k : Nat, k ≤ c ∧ i = .int .i64 k ∧ Hid (Buf wr w.heap.size (secBytes k f ++ List.replicate ((c - k) * 16) 0)) ∧ Below w.heap.size w wr) (fun i _ => c - (intOf i).toNat)
  case atStart => exact ⟨0, Nat.zero_le _, rfl, hB, hbel⟩
  case round =>
    clear hB hbel
    obtain ⟨k, hk, rfl, hB, hb⟩ := hrel
    by_cases hlt : k < c
    · have d1 := (hb.cell (p := ⟨p, o + 1, none⟩) hl).trans c1
      have hmr : SecMap wr m N f := (unhide HM).below hb (unhide HM).lt
      have hk16 := unhide H16 k
      have hsz := hb.size
      have hgl := (unhide hB).lt
      go_wp2_with (first
        | (at_lookup; refine wpList_lookup_sec _ rfl _ _ rfl m N f k rfl rfl hmr (by omega) ?_)
        | (refine wpList_box _ rfl _ _ rfl _ ((f k).map (Value.int .u8)).toArray rfl rfl rfl (by simp [hk16]) (sec_one _) ?_))
      obtain ⟨wx, hwx⟩ : ∃ wx, wx = wr.alloc (.cells ((f k).map (Value.int .u8)).toArray 90) := ⟨_, rfl⟩
      rw [← hwx]
      have hbx : Below wr.heap.size wr wx := by rw [hwx]; exact (Below.refl _ _).alloc (Nat.le_refl _) _
      have hBx : Buf wx w.heap.size (secBytes k f ++ List.replicate ((c - k) * 16) 0) := (unhide hB).block (hbx.block _ hgl)
      have hRx : Row wx (some ⟨wr.heap.size, 0, none⟩) (f k).length (f k) := ⟨rfl, fun i hi => ⟨_, 0, rfl, by rw [hwx, Nat.zero_add, cell_new rfl]; simp [List.getD, hi]⟩⟩
      obtain ⟨w2, hcp, hB2, hO2⟩ := Buf.copy (w := wx.drew) (o := k * 16) hBx hRx (by rw [hk16, List.length_append, secBytes_len f (unhide H16)]; simp; omega) 16 16 16 16 (by rw [hk16]; rfl)
      rw [secBytes_step c k f (unhide H16) hlt] at hB2
      rw [hk16] at hcp
      have hS := sectorOf_any w.heap.size 0 (c * 16) (c * 16) k
      rw [Nat.zero_add] at hS
      have HS := hide (fun w => hS w (by omega) (Nat.le_refl _) (by unfold maxLen; omega))
      have HB2 := hide hB2
      have HO := hide (show Below w.heap.size w w2 from (hb.trans (hbx.mono hsz)).trans (show Below w.heap.size wx w2 from have h := hO2.below (B := w.heap.size) (Nat.le_refl _); ⟨h.os, h.tape, h.output, h.size, h.block⟩))
      clear hwx hbx hBx hRx hB2 hO2 hS hb hmr hB d1
      go_wp2_with fail
      go_region_with (go_at_call 60; refine (unhide HS _).mono ?_; rintro e w3 ⟨rfl, rfl⟩)
      all_goals
        clear hcp
        go_wp2_with fail
        go_roundw
        case rel => exact ⟨k + 1, by omega, by go_num, unhide HB2, unhide HO⟩
        case measure => simp [intOf]; omega
    · obtain rfl : k = c := by omega
      have M := hide (show Mine wr w.heap.size (.slice (some ⟨w.heap.size, 0, none⟩) (k * 16) (k * 16)) (secBytes k f) from by
        have hB2 := unhide hB
        simp only [Nat.sub_self, Nat.zero_mul, List.replicate_zero, List.append_nil] at hB2
        have := hB2.mine (Nat.le_refl _) (by rw [secBytes_len f (unhide H16)]; unfold maxLen; omega)
        rwa [secBytes_len f (unhide H16)] at this)
      go_wp2_with fail
      go_ret
      exact ⟨rfl, unhide M, hb⟩
end Go.Proofs.Ytdiakahaghggiaa
