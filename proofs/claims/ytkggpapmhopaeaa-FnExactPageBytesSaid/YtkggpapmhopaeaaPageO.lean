/-
  The specification's l04Bounds, l04Delta; spec.PageOK, spec.Bounds.
-/
import Derived.Test.YtkggpapmhopaeaaPageN
namespace Go.Proofs.Ytkggpapmhopaeaa
open Go.RowKit

set_option maxRecDepth 100000 in
set_option maxHeartbeats 4000000 in
theorem l04Bounds_any (lo hi : ByteArray) (r : Int) (vb : Value) (ac : Option Addr) (nc cc : Nat) (ds : List DelD) (w : World) (hD : DRow w ac nc ds) (hnc : nc ≤ 100000) :
    Calls Try.prog 43 #[.agg #[.string lo, .string hi, .int .i64 r, vb, .slice ac nc cc]] w fun x w' => x = .returned (.tuple #[.string (highE hi ds), .int .i64 (rightE r ds)]) ∧ Below w.heap.size w w' := by
  have b0 : Below w.heap.size w (w.alloc (.cells #[.string lo, .string hi, .int .i64 r, vb, .slice ac nc cc] 31)) := (Below.refl _ _).alloc (Nat.le_refl _) _
  have LD := hide hD.1
  have RD := hide (hD.below b0)
  clear hD
  have p4 : (w.alloc (.cells #[.string lo, .string hi, .int .i64 r, vb, .slice ac nc cc] 31)).cell? ⟨w.heap.size, 4, none⟩ = some (.slice ac nc cc) := by simp
  go_enter Try.func43, Try.ntmps43
  go_wp2_with fail
  generalize w.alloc (.cells #[.string lo, .string hi, .int .i64 r, vb, .slice ac nc cc] 31) = W0 at *
  go_loop [4, 5, 6] (fun h g i => ∃ q : Nat, i = .int .i64 (q : Int) ∧ q ≤ nc ∧ h = .string (highE hi (ds.take q)) ∧ g = .int .i64 (rightE r (ds.take q))) (fun _ _ i => nc - (intOf i).toNat)
  case atStart => exact ⟨0, rfl, Nat.zero_le _, rfl, rfl⟩
  case round =>
    obtain ⟨q, rfl, hq, rfl, rfl⟩ := hrel
    by_cases hlt : q < nc
    · have hqe : q < ds.length := by have := unhide LD; omega
      obtain ⟨b, off, rfl, d0, d1, d2, d3⟩ := (unhide RD).2 q hqe
      have HH := hide ((congrArg (highE hi) (takeG_snoc ds q hqe)).trans (highE_snoc hi (ds.take q) ds[q]))
      have HR := hide ((congrArg (rightE r) (takeG_snoc ds q hqe)).trans (rightE_snoc r (ds.take q) ds[q]))
      generalize ds[q] = d at *
      generalize highE hi (ds.take q) = h1 at *
      generalize rightE r (ds.take q) = r1 at *
      by_cases hk : d.kind = 3
      · have hk' : (d.kind == 3) = true := by simp [hk]
        have HK := hide hk
        clear hk
        go_wp2_with fail
        go_round
        case rel => exact ⟨q + 1, by go_num, by omega, by rw [unhide HH, if_pos (unhide HK)], by rw [unhide HR, if_pos (unhide HK)]⟩
        case measure => simp [intOf]; omega
      · have hk' : (d.kind == 3) = false := by simp [hk]
        have HK := hide hk
        clear hk
        go_wp2_with fail
        go_round
        case rel => exact ⟨q + 1, by go_num, by omega, by rw [unhide HH, if_neg (unhide HK)], by rw [unhide HR, if_neg (unhide HK)]⟩
        case measure => simp [intOf]; omega
    · obtain rfl : q = nc := by omega
      have TD := hide (show ds.take q = ds from List.take_of_length_le (by rw [unhide LD]; exact Nat.le_refl _))
      rw [unhide TD]
      go_wp2_with fail
      go_ret2
      exact ⟨rfl, b0⟩
theorem bool_way (K U L V T0 E G I x1 x2 x3 : Bool) (hv : E = true → V = true) : (K && (!L && U) && ((x1 && V && T0) || (x2 && E && T0) || (x3 && E && G && I))) = (K && U && !L && V && ((x1 && T0) || (x2 && T0 && E) || (x3 && E && G && I))) := by
  cases E with
  | false =>
    clear hv
    revert K U L V T0 G I x1 x2 x3
    decide
  | true =>
    obtain rfl := hv rfl
    clear hv
    revert K U L T0 G I x1 x2 x3
    decide
theorem okDel_way (lo hi : ByteArray) (d : DelD) (K U L V T0 E G I : Bool) (k1 k2 k3 : Prop) [Decidable k1] [Decidable k2] [Decidable k3] (h1 : keyK d.k = K) (h2 : underK d.k hi = U) (h3 : Op.bytesLess d.k.toList lo.toList = L) (h4 : valK d.v = V) (h5 : decide (d.to = 0) = T0) (h6 : d.v.toList.isEmpty = E) (h7 : Op.bytesLess lo.toList d.k.toList = G) (h8 : idK d.to = I) (e1 : d.kind = 1 ↔ k1) (e2 : d.kind = 2 ↔ k2) (e3 : d.kind = 3 ↔ k3) :
    okDel lo hi d = (K && U && !L && V && ((decide k1 && T0) || (decide k2 && T0 && E) || (decide k3 && E && G && I))) := by
  have hv : E = true → V = true := by
    intro h
    rw [← h4, valK, decide_eq_true_eq]
    rw [← h6, List.isEmpty_iff] at h
    have : d.v.size = d.v.toList.length := by rw [ByteArray.toList_eq]; simp
    rw [this, h]
    exact Nat.zero_le _
  have a1 : decide (d.kind = 1) = decide k1 := decide_eq_decide.2 e1
  have a2 : decide (d.kind = 2) = decide k2 := decide_eq_decide.2 e2
  have a3 : decide (d.kind = 3) = decide k3 := decide_eq_decide.2 e3
  unfold okDel inK
  unfold underK at h2
  unfold ltK at *
  rw [h1, h2, h3, h4, h5, h6, h7, h8, a1, a2, a3]
  exact bool_way K U L V T0 E G I _ _ _ hv
set_option maxRecDepth 100000 in
set_option maxHeartbeats 4000000 in
theorem l04Delta_any (d : DelD) (lo hi : ByteArray) (w : World) :
    Calls Try.prog 36 #[.agg #[.int .i64 d.kind, .string d.k, .string d.v, .int .i64 d.to], .string lo, .string hi] w fun x w' => x = .returned (.bool (okDel lo hi d)) ∧ Below w.heap.size w w' := by
  have b0 := hide (show Below w.heap.size w (w.alloc (.cells #[.int .i64 d.kind, .string d.k, .string d.v, .int .i64 d.to] 44)) from (Below.refl _ _).alloc (Nat.le_refl _) _)
  have hid : (decide (0 ≤ d.to) && decide (d.to ≤ 1000)) = idK d.to := by unfold idK; rw [Bool.decide_and]
  have W := hide (okDel_way lo hi d _ _ _ _ _ _ _ _ _ _ _ rfl rfl rfl rfl rfl rfl rfl rfl Iff.rfl Iff.rfl Iff.rfl)
  obtain ⟨R, hR⟩ : ∃ R, R = okDel lo hi d := ⟨_, rfl⟩
  rw [← hR]
  replace hR := hide hR
  by_cases hk : keyK d.k = true
  · by_cases hu : underK d.k hi = true
    · by_cases hl : Op.bytesLess d.k.toList lo.toList = true
      · have E := hide (show false = R by rw [unhide hR, unhide W]; simp [hk, hu, hl])
        go_enter Try.func36, Try.ntmps36
        go_wp2_with (first | (go_at_call 34; refine (l04Key_any d.k _).mono ?_; rintro e w1 ⟨rfl, rfl⟩) | (go_at_call 35; refine (l04Under_any d.k hi _).mono ?_; rintro e w1 ⟨rfl, rfl⟩) | (go_at_call 33; refine (l01In_any d.to 0 1000 _).mono ?_; rintro e w1 ⟨rfl, rfl⟩; rw [hid]))
        go_ret
        exact ⟨ret_bool (by first | exact unhide E | (rw [← unhide E]; simp) | (rw [← unhide E]; exact hid)), unhide b0⟩
      · have hl' : (Op.bytesLess d.k.toList lo.toList) = false := by simpa using hl
        by_cases hv : d.v.size ≤ 100
        · have hv' : valK d.v = true := decide_eq_true hv
          by_cases k1 : d.kind = 1
          · have q1 : (d.kind == 1) = true := by simp [k1]
            have K1 := hide k1
            have E := hide (show decide (d.to = 0) = R by rw [unhide hR, unhide W]; simp [hk, hu, hl', hv', k1])
            clear k1
            go_enter Try.func36, Try.ntmps36
            go_wp2_with (first | (go_at_call 34; refine (l04Key_any d.k _).mono ?_; rintro e w1 ⟨rfl, rfl⟩) | (go_at_call 35; refine (l04Under_any d.k hi _).mono ?_; rintro e w1 ⟨rfl, rfl⟩) | (go_at_call 33; refine (l01In_any d.to 0 1000 _).mono ?_; rintro e w1 ⟨rfl, rfl⟩; rw [hid]))
            go_ret
            exact ⟨ret_bool (by rw [← unhide E]; first | rfl | exact (Bool.eq_iff_iff.2 (by simp))), unhide b0⟩
          · have q1 : (d.kind == 1) = false := by simp [k1]
            by_cases k2 : d.kind = 2
            · have q2 : (d.kind == 2) = true := by simp [k2]
              by_cases ht : d.to = 0
              · have E := hide (show d.v.toList.isEmpty = R by rw [unhide hR, unhide W]; simp [hk, hu, hl', hv', k2, ht])
                have qt : (d.to == 0) = true := by simp [ht]
                clear k1 k2 ht
                go_enter Try.func36, Try.ntmps36
                go_wp2_with (first | (go_at_call 34; refine (l04Key_any d.k _).mono ?_; rintro e w1 ⟨rfl, rfl⟩) | (go_at_call 35; refine (l04Under_any d.k hi _).mono ?_; rintro e w1 ⟨rfl, rfl⟩) | (go_at_call 33; refine (l01In_any d.to 0 1000 _).mono ?_; rintro e w1 ⟨rfl, rfl⟩; rw [hid]))
                go_ret
                exact ⟨ret_bool (unhide E), unhide b0⟩
              · have E := hide (show false = R by rw [unhide hR, unhide W]; simp [hk, hu, hl', hv', k2, ht])
                have qt : (d.to == 0) = false := by simp [ht]
                clear k1 k2 ht
                go_enter Try.func36, Try.ntmps36
                go_wp2_with (first | (go_at_call 34; refine (l04Key_any d.k _).mono ?_; rintro e w1 ⟨rfl, rfl⟩) | (go_at_call 35; refine (l04Under_any d.k hi _).mono ?_; rintro e w1 ⟨rfl, rfl⟩) | (go_at_call 33; refine (l01In_any d.to 0 1000 _).mono ?_; rintro e w1 ⟨rfl, rfl⟩; rw [hid]))
                go_ret
                exact ⟨ret_bool (unhide E), unhide b0⟩
            · have q2 : (d.kind == 2) = false := by simp [k2]
              by_cases k3 : d.kind = 3
              · have q3 : (d.kind == 3) = true := by simp [k3]
                by_cases hb : d.v.toList.isEmpty = true
                · by_cases hg : Op.bytesLess lo.toList d.k.toList = true
                  · have E := hide (show idK d.to = R by rw [unhide hR, unhide W]; simp [hk, hu, hl', hv', k3, hb, hg])
                    have hne : (d.k.toList == lo.toList) = false := by have := bl_turn d.k.toList lo.toList; rw [hg, hl'] at this; simpa using this
                    have hne' : ¬ d.k.toList = lo.toList := by simpa using hne
                    clear k1 k2 k3
                    go_enter Try.func36, Try.ntmps36
                    go_wp2_with (first | (go_at_call 34; refine (l04Key_any d.k _).mono ?_; rintro e w1 ⟨rfl, rfl⟩) | (go_at_call 35; refine (l04Under_any d.k hi _).mono ?_; rintro e w1 ⟨rfl, rfl⟩) | (go_at_call 33; refine (l01In_any d.to 0 1000 _).mono ?_; rintro e w1 ⟨rfl, rfl⟩; rw [hid]))
                    go_ret
                    exact ⟨ret_bool (unhide E), unhide b0⟩
                  · have hg' : Op.bytesLess lo.toList d.k.toList = false := by simpa using hg
                    have E := hide (show false = R by rw [unhide hR, unhide W]; simp [hk, hu, hl', hv', k3, hb, hg'])
                    have hne : (d.k.toList == lo.toList) = true := by have := bl_turn d.k.toList lo.toList; rw [hg', hl'] at this; simpa using this
                    clear k1 k2 k3
                    go_enter Try.func36, Try.ntmps36
                    go_wp2_with (first | (go_at_call 34; refine (l04Key_any d.k _).mono ?_; rintro e w1 ⟨rfl, rfl⟩) | (go_at_call 35; refine (l04Under_any d.k hi _).mono ?_; rintro e w1 ⟨rfl, rfl⟩) | (go_at_call 33; refine (l01In_any d.to 0 1000 _).mono ?_; rintro e w1 ⟨rfl, rfl⟩; rw [hid]))
                    go_ret
                    exact ⟨ret_bool (unhide E), unhide b0⟩
                · have hb' : d.v.toList.isEmpty = false := by simpa using hb
                  have E := hide (show false = R by rw [unhide hR, unhide W]; simp [hk, hu, hl', hv', k3, hb'])
                  clear k1 k2 k3
                  go_enter Try.func36, Try.ntmps36
                  go_wp2_with (first | (go_at_call 34; refine (l04Key_any d.k _).mono ?_; rintro e w1 ⟨rfl, rfl⟩) | (go_at_call 35; refine (l04Under_any d.k hi _).mono ?_; rintro e w1 ⟨rfl, rfl⟩) | (go_at_call 33; refine (l01In_any d.to 0 1000 _).mono ?_; rintro e w1 ⟨rfl, rfl⟩; rw [hid]))
                  go_ret
                  exact ⟨ret_bool (unhide E), unhide b0⟩
              · have q3 : (d.kind == 3) = false := by simp [k3]
                have E := hide (show false = R by rw [unhide hR, unhide W]; simp [hk, hu, hl', hv', k1, k2, k3])
                clear k1 k2 k3
                go_enter Try.func36, Try.ntmps36
                go_wp2_with (first | (go_at_call 34; refine (l04Key_any d.k _).mono ?_; rintro e w1 ⟨rfl, rfl⟩) | (go_at_call 35; refine (l04Under_any d.k hi _).mono ?_; rintro e w1 ⟨rfl, rfl⟩) | (go_at_call 33; refine (l01In_any d.to 0 1000 _).mono ?_; rintro e w1 ⟨rfl, rfl⟩; rw [hid]))
                go_ret
                exact ⟨ret_bool (unhide E), unhide b0⟩
        · have hv' : valK d.v = false := decide_eq_false hv
          have E := hide (show false = R by rw [unhide hR, unhide W]; simp [hk, hu, hl', hv'])
          go_enter Try.func36, Try.ntmps36
          go_wp2_with (first | (go_at_call 34; refine (l04Key_any d.k _).mono ?_; rintro e w1 ⟨rfl, rfl⟩) | (go_at_call 35; refine (l04Under_any d.k hi _).mono ?_; rintro e w1 ⟨rfl, rfl⟩) | (go_at_call 33; refine (l01In_any d.to 0 1000 _).mono ?_; rintro e w1 ⟨rfl, rfl⟩; rw [hid]))
          go_ret
          exact ⟨ret_bool (by first | exact unhide E | (rw [← unhide E]; simp) | (rw [← unhide E]; exact hid)), unhide b0⟩
    · have hu' : (underK d.k hi) = false := by simpa using hu
      have E := hide (show false = R by rw [unhide hR, unhide W]; simp [hk, hu'])
      go_enter Try.func36, Try.ntmps36
      go_wp2_with (first | (go_at_call 34; refine (l04Key_any d.k _).mono ?_; rintro e w1 ⟨rfl, rfl⟩) | (go_at_call 35; refine (l04Under_any d.k hi _).mono ?_; rintro e w1 ⟨rfl, rfl⟩) | (go_at_call 33; refine (l01In_any d.to 0 1000 _).mono ?_; rintro e w1 ⟨rfl, rfl⟩; rw [hid]))
      go_ret
      exact ⟨ret_bool (by first | exact unhide E | (rw [← unhide E]; simp) | (rw [← unhide E]; exact hid)), unhide b0⟩
  · have hk' : (keyK d.k) = false := by simpa using hk
    have E := hide (show false = R by rw [unhide hR, unhide W]; simp [hk'])
    go_enter Try.func36, Try.ntmps36
    go_wp2_with (first | (go_at_call 34; refine (l04Key_any d.k _).mono ?_; rintro e w1 ⟨rfl, rfl⟩) | (go_at_call 35; refine (l04Under_any d.k hi _).mono ?_; rintro e w1 ⟨rfl, rfl⟩) | (go_at_call 33; refine (l01In_any d.to 0 1000 _).mono ?_; rintro e w1 ⟨rfl, rfl⟩; rw [hid]))
    go_ret
    exact ⟨ret_bool (by first | exact unhide E | (rw [← unhide E]; simp) | (rw [← unhide E]; exact hid)), unhide b0⟩
end Go.Proofs.Ytkggpapmhopaeaa
