/-
  The reader's flags.
-/
import Derived.Test.YtmogcfiioajaeaaDoorAlJ
import Derived.Test.YtmogcfiioajaeaaDoorAlR
namespace Go.Proofs.YtmogcfiioajaeaaDoor
open Go.RowKit

theorem any_any (R : Nat) (L : List ByteArray) (w : World) (h : RdW w R L) :
    Calls Tryd.prog 46 #[.pointer (some ⟨R, 0, none⟩)] w fun e w' => e = .returned (.string (L.headD ⟨#[]⟩)) ∧ RdW w' R L.tail ∧ Wrote R w w' := by
  cases L with
  | nil =>
    refine (any_nil R w h).mono ?_
    rintro e w' ⟨rfl, rfl⟩
    exact ⟨rfl, h, Wrote.refl _ _⟩
  | cons k r => exact any_cons R k r w h
/-- What the reading of flags comes to. -/
def FlRes (w : World) (R : Nat) (L : List ByteArray) (e : Ending) (w' : World) : Prop :=
  Wrote R w w' ∧ ((okL (L.headD ⟨#[]⟩).data.toList = true ∧ ∃ a m c, e = .returned (.slice a m c) ∧ KeepOwns w' w.heap.size (.slice a m c) (flL (L.headD ⟨#[]⟩).data.toList) ∧ RdW w' R L.tail) ∨ (okL (L.headD ⟨#[]⟩).data.toList = false ∧ e = noE))
theorem okL_take {l : List UInt8} {j : Nat} (h : okL (l.take j) = false) : okL l = false := by
  have e : okL l = (okL (l.take j) && okL (l.drop j)) := by
    unfold okL
    rw [← List.all_append, List.take_append_drop]
  rw [e, h]
  rfl
set_option maxRecDepth 100000 in
set_option maxHeartbeats 2000000 in
theorem flags_any (R : Nat) (L : List ByteArray) (w : World) (h : RdW w R L) :
    Calls Tryd.prog 48 #[.pointer (some ⟨R, 0, none⟩)] w fun e w' => FlRes w R L e w' := by
  have C := hide (any_any R L w h)
  have hz : (L.headD ⟨#[]⟩).size ≤ 65536 := by
    obtain ⟨_, _, _, _, _, _, _, _, hz⟩ := h
    cases L with
    | nil => exact Nat.zero_le _
    | cons k r => exact hz k List.mem_cons_self
  clear h
  generalize hzz : L.headD ⟨#[]⟩ = z at *
  have HZ := hide hzz
  clear hzz
  go_enter Tryd.func48, Tryd.ntmps48
  go_wp2_with fail
  refine (unhide C).mono ?_
  rintro e w1 ⟨rfl, hr, hw⟩
  have RD := hide hr
  have HW := hide hw
  clear C hr hw
  have hcv := Lib.run_convert_string_bytes (P := Tryd.prog) w1 9 72 5 z (u := .string) Tryd.underlying9 Tryd.underlying72 Tryd.underlying5
  have bZ := Lib.bytesWorld_below w1 5 z
  have CZ := hide (Lib.bytesWorld_cell w1 5 z)
  have hsz := Lib.bytesWorld_size w1 5 z
  generalize Lib.bytesWorld w1 5 z = w2 at *
  have RD2 := hide ((unhide RD).below bZ)
  have HW2 := hide ((unhide HW).trans (Wrote.of_below bZ))
  have hwz := hide (show w.heap.size ≤ w2.heap.size from by have := (unhide HW).size; omega)
  have hblt := hide (show w1.heap.size < w2.heap.size by omega)
  clear RD HW bZ hsz
  generalize grownCap w1 z.size 0 5 = cz at *
  generalize w1.heap.size = bz at *
  go_upto_region 3 with fail
  clear hcv
  go_loopw [3, 5, 10] (fun lv _ iv wr => ∃ (j : Nat) (a : Option Addr) (n c : Nat), j ≤ z.size ∧ lv = .slice a n c ∧ iv = .int .i64 (j : Nat) ∧ Hid (okL (z.data.toList.take j) = true) ∧ Hid (KeepOwns wr w2.heap.size (.slice a n c) (flL (z.data.toList.take j))) ∧ Hid (Below w2.heap.size w2 wr)) (fun _ _ iv _ => z.size - (intOf iv).toNat)
  case atStart => exact ⟨0, none, 0, 0, Nat.zero_le _, rfl, rfl, hide rfl, hide (keep_nil _ _), hide (Below.refl _ _)⟩
  case round =>
    obtain ⟨j, a, n, c, hj, rfl, rfl, HO, KO, KB⟩ := hrel
    have NN := hide (show n = (flL (z.data.toList.take j)).length from by
      rcases (unhide KO).2 with ⟨e, h0⟩ | ⟨g, cap, cur, e, _⟩
      · injection e with _ e _; omega
      · injection e with _ e _)
    by_cases hlt : j < z.size
    · have TS := hide (take_snoc z j hlt)
      have cj := ((unhide KB).cell (p := ⟨bz, j, none⟩) (unhide hblt)).trans (unhide CZ j hlt)
      rw [show z.data.toList.getD j 0 = z[j] from by rw [List.getD_eq_getElem?_getD, List.getElem?_eq_getElem (by rw [Array.length_toList]; exact hlt)]; rfl] at cj
      have hlt2 : (j : Int) < (z.size : Int) := by omega
      by_cases h48 : z[j] = 48
      · have g48 : ((z[j].toNat : Int) == 48) = true := by rw [h48]; rfl
        have g49 : ((z[j].toNat : Int) == 49) = false := by rw [h48]; rfl
        have n48 : ((z[j].toNat : Int) != 48) = false := by rw [h48]; rfl
        have n49 : ((z[j].toNat : Int) != 49) = true := by rw [h48]; rfl
        have hz1 : (z[j] == 48 || z[j] == 49) = true := by rw [h48]; rfl
        have hz2 : (z[j] == 49) = false := by rw [h48]; rfl
        obtain ⟨v2, w5, hrun, ho, hg, -⟩ := bl_app false (unhide KO) (by rw [flL_len]; have := take_len z j hz; omega) (unhide KB).size
        obtain ⟨a2, c2, rfl⟩ : ∃ a2 c2, v2 = .slice a2 (n + 1) c2 := by
          have h := ho
          unfold KeepOwns at h
          rw [List.length_append, List.length_singleton, ← unhide NN] at h
          rcases h.2 with ⟨e, h0⟩ | ⟨g, cap, cur, e, _⟩
          · omega
          · exact ⟨_, _, e⟩
        have bA : Below wr.heap.size wr (wr.alloc (.cells #[.bool false] 4)) := (Below.refl _ _).alloc (Nat.le_refl _) _
        have RR := hide (And.intro (show okL (z.data.toList.take (j + 1)) = true by rw [unhide TS, okL_snoc, unhide HO, hz1]; rfl) (And.intro (show KeepOwns w5 w2.heap.size (.slice a2 (n + 1) c2) (flL (z.data.toList.take (j + 1))) by rw [unhide TS, flL_snoc, hz2]; exact ho) (below_grownB ((unhide KB).trans (bA.mono (unhide KB).size)) (Nat.le_trans (unhide KB).size bA.size) (World.ownsRow.alloc (unhide KO) _) hg)))
        clear ho hg bA HO KO KB TS NN hz1 hz2 h48
        go_wp2_with (at_builtin; refine al_wpApp rfl (.tmp 21) (.tmp 24) 24 rfl _ _ _ w5 rfl rfl hrun ?_)
        go_roundw
        case rel => exact ⟨j + 1, a2, n + 1, c2, by omega, rfl, by go_num, hide (unhide RR).1, hide (unhide RR).2.1, hide (unhide RR).2.2⟩
        case measure => simp [intOf]; omega
      · by_cases h49 : z[j] = 49
        · have g48 : ((z[j].toNat : Int) == 48) = false := by rw [h49]; rfl
          have g49 : ((z[j].toNat : Int) == 49) = true := by rw [h49]; rfl
          have n48 : ((z[j].toNat : Int) != 48) = true := by rw [h49]; rfl
          have n49 : ((z[j].toNat : Int) != 49) = false := by rw [h49]; rfl
          have hz1 : (z[j] == 48 || z[j] == 49) = true := by rw [h49]; rfl
          have hz2 : (z[j] == 49) = true := by rw [h49]; rfl
          obtain ⟨v2, w5, hrun, ho, hg, -⟩ := bl_app true (unhide KO) (by rw [flL_len]; have := take_len z j hz; omega) (unhide KB).size
          obtain ⟨a2, c2, rfl⟩ : ∃ a2 c2, v2 = .slice a2 (n + 1) c2 := by
            have h := ho
            unfold KeepOwns at h
            rw [List.length_append, List.length_singleton, ← unhide NN] at h
            rcases h.2 with ⟨e, h0⟩ | ⟨g, cap, cur, e, _⟩
            · omega
            · exact ⟨_, _, e⟩
          have bA : Below wr.heap.size wr (wr.alloc (.cells #[.bool true] 4)) := (Below.refl _ _).alloc (Nat.le_refl _) _
          have RR := hide (And.intro (show okL (z.data.toList.take (j + 1)) = true by rw [unhide TS, okL_snoc, unhide HO, hz1]; rfl) (And.intro (show KeepOwns w5 w2.heap.size (.slice a2 (n + 1) c2) (flL (z.data.toList.take (j + 1))) by rw [unhide TS, flL_snoc, hz2]; exact ho) (below_grownB ((unhide KB).trans (bA.mono (unhide KB).size)) (Nat.le_trans (unhide KB).size bA.size) (World.ownsRow.alloc (unhide KO) _) hg)))
          clear ho hg bA HO KO KB TS NN hz1 hz2 h48 h49
          go_wp2_with (at_builtin; refine al_wpApp rfl (.tmp 21) (.tmp 24) 24 rfl _ _ _ w5 rfl rfl hrun ?_)
          go_roundw
          case rel => exact ⟨j + 1, a2, n + 1, c2, by omega, rfl, by go_num, hide (unhide RR).1, hide (unhide RR).2.1, hide (unhide RR).2.2⟩
          case measure => simp [intOf]; omega
        · have g48 : ((z[j].toNat : Int) == 48) = false := by
            rw [show (48 : Int) = ((48 : Nat) : Int) from rfl, u8_beq _ 48 (by decide)]
            exact beq_eq_false_iff_ne.2 h48
          have g49 : ((z[j].toNat : Int) == 49) = false := by
            rw [show (49 : Int) = ((49 : Nat) : Int) from rfl, u8_beq _ 49 (by decide)]
            exact beq_eq_false_iff_ne.2 h49
          have n48 : ((z[j].toNat : Int) != 48) = true := by unfold bne; rw [g48]; rfl
          have n49 : ((z[j].toNat : Int) != 49) = true := by unfold bne; rw [g49]; rfl
          have RES := hide (show FlRes w R L noE wr from ⟨(unhide HW2).trans (Wrote.of_below (unhide KB)), .inr ⟨by
            rw [unhide HZ]
            refine okL_take (j := j + 1) ?_
            rw [unhide TS, okL_snoc, show (z[j] == 48 || z[j] == 49) = false from by rw [beq_eq_false_iff_ne.2 h48, beq_eq_false_iff_ne.2 h49]; rfl, Bool.and_false], rfl⟩⟩)
          clear HO KO KB TS NN h48 h49
          go_wp2_with fail
          exact ⟨rfl, unhide RES⟩
    · obtain rfl : j = z.size := by omega
      have FT : z.data.toList.take z.size = z.data.toList := List.take_of_length_le (by rw [Array.length_toList]; exact Nat.le_refl _)
      have RES := hide (show FlRes w R L (.returned (.slice a n c)) wr from ⟨(unhide HW2).trans (Wrote.of_below (unhide KB)), .inl ⟨by rw [unhide HZ, ← FT]; exact unhide HO, a, n, c, rfl, by rw [unhide HZ, ← FT]; exact ownsRow_down (unhide KO) (unhide hwz), (unhide RD2).below (unhide KB)⟩⟩)
      clear HO KO KB NN FT
      go_wp2_with fail
      go_ret
      exact unhide RES
end Go.Proofs.YtmogcfiioajaeaaDoor
