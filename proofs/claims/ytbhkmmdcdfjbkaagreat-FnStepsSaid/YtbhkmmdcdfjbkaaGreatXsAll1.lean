/-
  PageO, TrS, TrN, PageP, PageQ, TrT, MtG, TgL, PageR, PageS, FdL, PgB, TsL, MkT, PgM, PgH, PgK, PageT, PageU, PgCc, PageV, PageW, FdM in one.
-/
import Derived.Test.YtbhkmmdcdfjbkaaGreatPageN
import Derived.Test.YtbhkmmdcdfjbkaaGreatMtE
import Derived.Deep.DeepCutAuto
import Derived.Deep.RegionWith
import Derived.Test.YtbhkmmdcdfjbkaaGreatOwn
import Derived.Laws.BytesArg
import Derived.Test.YtbhkmmdcdfjbkaaGreatPgP
import Derived.Test.YtbhkmmdcdfjbkaaGreatWrT
import Derived.Test.YtbhkmmdcdfjbkaaGreatPgG
namespace Go.Proofs.YtbhkmmdcdfjbkaaGreat
open Go.RowKit

set_option maxRecDepth 100000 in
set_option maxHeartbeats 4000000 in
theorem l04Bounds_any (lo hi : ByteArray) (r : Int) (vb : Value) (ac : Option Addr) (nc cc : Nat) (ds : List DelD) (w : World) (hD : DRow w ac nc ds) (hnc : nc ≤ 100000) :
    Calls Tryz.prog 77 #[.agg #[.string lo, .string hi, .int .i64 r, vb, .slice ac nc cc]] w fun x w' => x = .returned (.tuple #[.string (highE hi ds), .int .i64 (rightE r ds)]) ∧ Below w.heap.size w w' := by
  have b0 : Below w.heap.size w (w.alloc (.cells #[.string lo, .string hi, .int .i64 r, vb, .slice ac nc cc] 67)) := (Below.refl _ _).alloc (Nat.le_refl _) _
  have LD := hide hD.1
  have RD := hide (hD.below b0)
  clear hD
  have p4 : (w.alloc (.cells #[.string lo, .string hi, .int .i64 r, vb, .slice ac nc cc] 67)).cell? ⟨w.heap.size, 4, none⟩ = some (.slice ac nc cc) := by simp
  go_enter Tryz.func77, Tryz.ntmps77
  go_wp2_with fail
  generalize w.alloc (.cells #[.string lo, .string hi, .int .i64 r, vb, .slice ac nc cc] 67) = W0 at *
  go_loop [4, 5, 6] (fun h g i => ∃ q : Nat, i = .int .i64 (q : Int) ∧ q ≤ nc ∧ h = .string (highE hi (ds.take q)) ∧ g = .int .i64 (rightE r (ds.take q))) (fun _ _ i => nc - (intOf i).toNat)
  case atStart => exact ⟨0, rfl, Nat.zero_le _, rfl, rfl⟩
  case round =>
    obtain ⟨q, rfl, hq, rfl, rfl⟩ := hrel
    by_cases hlt : q < nc
    · have hqe : q < ds.length := by have := unhide LD; omega
      obtain ⟨b, off, rfl, d0, d1, d2, d3⟩ := (unhide RD).2 q hqe
      have HH := hide ((congrArg (highE hi) (takeG_snoc ds q hqe)).trans (highE_snoc hi (ds.take q) ds[q]))
      have HR := hide ((congrArg (rightE r) (takeG_snoc ds q hqe)).trans (rightE_snoc r (ds.take q) ds[q]))
      generalize ds[q] = d at *
      generalize highE hi (ds.take q) = h1 at *
      generalize rightE r (ds.take q) = r1 at *
      by_cases hk : d.kind = 3
      · have hk' : (d.kind == 3) = true := by simp [hk]
        have HK := hide hk
        clear hk
        go_wp2_with fail
        go_round
        case rel => exact ⟨q + 1, by go_num, by omega, by rw [unhide HH, if_pos (unhide HK)], by rw [unhide HR, if_pos (unhide HK)]⟩
        case measure => simp [intOf]; omega
      · have hk' : (d.kind == 3) = false := by simp [hk]
        have HK := hide hk
        clear hk
        go_wp2_with fail
        go_round
        case rel => exact ⟨q + 1, by go_num, by omega, by rw [unhide HH, if_neg (unhide HK)], by rw [unhide HR, if_neg (unhide HK)]⟩
        case measure => simp [intOf]; omega
    · obtain rfl : q = nc := by omega
      have TD := hide (show ds.take q = ds from List.take_of_length_le (by rw [unhide LD]; exact Nat.le_refl _))
      rw [unhide TD]
      go_wp2_with fail
      go_ret2
      exact ⟨rfl, b0⟩
theorem bool_way (K U L V T0 E G I x1 x2 x3 : Bool) (hv : E = true → V = true) : (K && (!L && U) && ((x1 && V && T0) || (x2 && E && T0) || (x3 && E && G && I))) = (K && U && !L && V && ((x1 && T0) || (x2 && T0 && E) || (x3 && E && G && I))) := by
  cases E with
  | false =>
    clear hv
    revert K U L V T0 G I x1 x2 x3
    decide
  | true =>
    obtain rfl := hv rfl
    clear hv
    revert K U L T0 G I x1 x2 x3
    decide
theorem okDel_way (lo hi : ByteArray) (d : DelD) (K U L V T0 E G I : Bool) (k1 k2 k3 : Prop) [Decidable k1] [Decidable k2] [Decidable k3] (h1 : keyK d.k = K) (h2 : underK d.k hi = U) (h3 : Op.bytesLess d.k.toList lo.toList = L) (h4 : valK d.v = V) (h5 : decide (d.to = 0) = T0) (h6 : d.v.toList.isEmpty = E) (h7 : Op.bytesLess lo.toList d.k.toList = G) (h8 : idK d.to = I) (e1 : d.kind = 1 ↔ k1) (e2 : d.kind = 2 ↔ k2) (e3 : d.kind = 3 ↔ k3) :
    okDel lo hi d = (K && U && !L && V && ((decide k1 && T0) || (decide k2 && T0 && E) || (decide k3 && E && G && I))) := by
  have hv : E = true → V = true := by
    intro h
    rw [← h4, valK, decide_eq_true_eq]
    rw [← h6, List.isEmpty_iff] at h
    have : d.v.size = d.v.toList.length := by rw [ByteArray.toList_eq]; simp
    rw [this, h]
    exact Nat.zero_le _
  have a1 : decide (d.kind = 1) = decide k1 := decide_eq_decide.2 e1
  have a2 : decide (d.kind = 2) = decide k2 := decide_eq_decide.2 e2
  have a3 : decide (d.kind = 3) = decide k3 := decide_eq_decide.2 e3
  unfold okDel inK
  unfold underK at h2
  unfold ltK at *
  rw [h1, h2, h3, h4, h5, h6, h7, h8, a1, a2, a3]
  exact bool_way K U L V T0 E G I _ _ _ hv
set_option maxRecDepth 100000 in
set_option maxHeartbeats 4000000 in
theorem l04Delta_any (d : DelD) (lo hi : ByteArray) (w : World) :
    Calls Tryz.prog 103 #[.agg #[.int .i64 d.kind, .string d.k, .string d.v, .int .i64 d.to], .string lo, .string hi] w fun x w' => x = .returned (.bool (okDel lo hi d)) ∧ Below w.heap.size w w' := by
  have b0 := hide (show Below w.heap.size w (w.alloc (.cells #[.int .i64 d.kind, .string d.k, .string d.v, .int .i64 d.to] 90)) from (Below.refl _ _).alloc (Nat.le_refl _) _)
  have hid : (decide (0 ≤ d.to) && decide (d.to ≤ 1000)) = idK d.to := by unfold idK; rw [Bool.decide_and]
  have W := hide (okDel_way lo hi d _ _ _ _ _ _ _ _ _ _ _ rfl rfl rfl rfl rfl rfl rfl rfl Iff.rfl Iff.rfl Iff.rfl)
  obtain ⟨R, hR⟩ : ∃ R, R = okDel lo hi d := ⟨_, rfl⟩
  rw [← hR]
  replace hR := hide hR
  by_cases hk : keyK d.k = true
  · by_cases hu : underK d.k hi = true
    · by_cases hl : Op.bytesLess d.k.toList lo.toList = true
      · have E := hide (show false = R by rw [unhide hR, unhide W]; simp [hk, hu, hl])
        go_enter Tryz.func103, Tryz.ntmps103
        go_wp2_with (first | (go_at_call 55; refine (l04Key_any d.k _).mono ?_; rintro e w1 ⟨rfl, rfl⟩) | (go_at_call 75; refine (l04Under_any d.k hi _).mono ?_; rintro e w1 ⟨rfl, rfl⟩) | (go_at_call 57; refine (l01In_any d.to 0 1000 _).mono ?_; rintro e w1 ⟨rfl, rfl⟩; rw [hid]))
        go_ret
        exact ⟨ret_bool (by first | exact unhide E | (rw [← unhide E]; simp) | (rw [← unhide E]; exact hid)), unhide b0⟩
      · have hl' : (Op.bytesLess d.k.toList lo.toList) = false := by simpa using hl
        by_cases hv : d.v.size ≤ 100
        · have hv' : valK d.v = true := decide_eq_true hv
          by_cases k1 : d.kind = 1
          · have q1 : (d.kind == 1) = true := by simp [k1]
            have K1 := hide k1
            have E := hide (show decide (d.to = 0) = R by rw [unhide hR, unhide W]; simp [hk, hu, hl', hv', k1])
            clear k1
            go_enter Tryz.func103, Tryz.ntmps103
            go_wp2_with (first | (go_at_call 55; refine (l04Key_any d.k _).mono ?_; rintro e w1 ⟨rfl, rfl⟩) | (go_at_call 75; refine (l04Under_any d.k hi _).mono ?_; rintro e w1 ⟨rfl, rfl⟩) | (go_at_call 57; refine (l01In_any d.to 0 1000 _).mono ?_; rintro e w1 ⟨rfl, rfl⟩; rw [hid]))
            go_ret
            exact ⟨ret_bool (by rw [← unhide E]; first | rfl | exact (Bool.eq_iff_iff.2 (by simp))), unhide b0⟩
          · have q1 : (d.kind == 1) = false := by simp [k1]
            by_cases k2 : d.kind = 2
            · have q2 : (d.kind == 2) = true := by simp [k2]
              by_cases ht : d.to = 0
              · have E := hide (show d.v.toList.isEmpty = R by rw [unhide hR, unhide W]; simp [hk, hu, hl', hv', k2, ht])
                have qt : (d.to == 0) = true := by simp [ht]
                clear k1 k2 ht
                go_enter Tryz.func103, Tryz.ntmps103
                go_wp2_with (first | (go_at_call 55; refine (l04Key_any d.k _).mono ?_; rintro e w1 ⟨rfl, rfl⟩) | (go_at_call 75; refine (l04Under_any d.k hi _).mono ?_; rintro e w1 ⟨rfl, rfl⟩) | (go_at_call 57; refine (l01In_any d.to 0 1000 _).mono ?_; rintro e w1 ⟨rfl, rfl⟩; rw [hid]))
                go_ret
                exact ⟨ret_bool (unhide E), unhide b0⟩
              · have E := hide (show false = R by rw [unhide hR, unhide W]; simp [hk, hu, hl', hv', k2, ht])
                have qt : (d.to == 0) = false := by simp [ht]
                clear k1 k2 ht
                go_enter Tryz.func103, Tryz.ntmps103
                go_wp2_with (first | (go_at_call 55; refine (l04Key_any d.k _).mono ?_; rintro e w1 ⟨rfl, rfl⟩) | (go_at_call 75; refine (l04Under_any d.k hi _).mono ?_; rintro e w1 ⟨rfl, rfl⟩) | (go_at_call 57; refine (l01In_any d.to 0 1000 _).mono ?_; rintro e w1 ⟨rfl, rfl⟩; rw [hid]))
                go_ret
                exact ⟨ret_bool (unhide E), unhide b0⟩
            · have q2 : (d.kind == 2) = false := by simp [k2]
              by_cases k3 : d.kind = 3
              · have q3 : (d.kind == 3) = true := by simp [k3]
                by_cases hb : d.v.toList.isEmpty = true
                · by_cases hg : Op.bytesLess lo.toList d.k.toList = true
                  · have E := hide (show idK d.to = R by rw [unhide hR, unhide W]; simp [hk, hu, hl', hv', k3, hb, hg])
                    have hne : (d.k.toList == lo.toList) = false := by have := bl_turn d.k.toList lo.toList; rw [hg, hl'] at this; simpa using this
                    have hne' : ¬ d.k.toList = lo.toList := by simpa using hne
                    clear k1 k2 k3
                    go_enter Tryz.func103, Tryz.ntmps103
                    go_wp2_with (first | (go_at_call 55; refine (l04Key_any d.k _).mono ?_; rintro e w1 ⟨rfl, rfl⟩) | (go_at_call 75; refine (l04Under_any d.k hi _).mono ?_; rintro e w1 ⟨rfl, rfl⟩) | (go_at_call 57; refine (l01In_any d.to 0 1000 _).mono ?_; rintro e w1 ⟨rfl, rfl⟩; rw [hid]))
                    go_ret
                    exact ⟨ret_bool (unhide E), unhide b0⟩
                  · have hg' : Op.bytesLess lo.toList d.k.toList = false := by simpa using hg
                    have E := hide (show false = R by rw [unhide hR, unhide W]; simp [hk, hu, hl', hv', k3, hb, hg'])
                    have hne : (d.k.toList == lo.toList) = true := by have := bl_turn d.k.toList lo.toList; rw [hg', hl'] at this; simpa using this
                    clear k1 k2 k3
                    go_enter Tryz.func103, Tryz.ntmps103
                    go_wp2_with (first | (go_at_call 55; refine (l04Key_any d.k _).mono ?_; rintro e w1 ⟨rfl, rfl⟩) | (go_at_call 75; refine (l04Under_any d.k hi _).mono ?_; rintro e w1 ⟨rfl, rfl⟩) | (go_at_call 57; refine (l01In_any d.to 0 1000 _).mono ?_; rintro e w1 ⟨rfl, rfl⟩; rw [hid]))
                    go_ret
                    exact ⟨ret_bool (unhide E), unhide b0⟩
                · have hb' : d.v.toList.isEmpty = false := by simpa using hb
                  have E := hide (show false = R by rw [unhide hR, unhide W]; simp [hk, hu, hl', hv', k3, hb'])
                  clear k1 k2 k3
                  go_enter Tryz.func103, Tryz.ntmps103
                  go_wp2_with (first | (go_at_call 55; refine (l04Key_any d.k _).mono ?_; rintro e w1 ⟨rfl, rfl⟩) | (go_at_call 75; refine (l04Under_any d.k hi _).mono ?_; rintro e w1 ⟨rfl, rfl⟩) | (go_at_call 57; refine (l01In_any d.to 0 1000 _).mono ?_; rintro e w1 ⟨rfl, rfl⟩; rw [hid]))
                  go_ret
                  exact ⟨ret_bool (unhide E), unhide b0⟩
              · have q3 : (d.kind == 3) = false := by simp [k3]
                have E := hide (show false = R by rw [unhide hR, unhide W]; simp [hk, hu, hl', hv', k1, k2, k3])
                clear k1 k2 k3
                go_enter Tryz.func103, Tryz.ntmps103
                go_wp2_with (first | (go_at_call 55; refine (l04Key_any d.k _).mono ?_; rintro e w1 ⟨rfl, rfl⟩) | (go_at_call 75; refine (l04Under_any d.k hi _).mono ?_; rintro e w1 ⟨rfl, rfl⟩) | (go_at_call 57; refine (l01In_any d.to 0 1000 _).mono ?_; rintro e w1 ⟨rfl, rfl⟩; rw [hid]))
                go_ret
                exact ⟨ret_bool (unhide E), unhide b0⟩
        · have hv' : valK d.v = false := decide_eq_false hv
          have E := hide (show false = R by rw [unhide hR, unhide W]; simp [hk, hu, hl', hv'])
          go_enter Tryz.func103, Tryz.ntmps103
          go_wp2_with (first | (go_at_call 55; refine (l04Key_any d.k _).mono ?_; rintro e w1 ⟨rfl, rfl⟩) | (go_at_call 75; refine (l04Under_any d.k hi _).mono ?_; rintro e w1 ⟨rfl, rfl⟩) | (go_at_call 57; refine (l01In_any d.to 0 1000 _).mono ?_; rintro e w1 ⟨rfl, rfl⟩; rw [hid]))
          go_ret
          exact ⟨ret_bool (by first | exact unhide E | (rw [← unhide E]; simp) | (rw [← unhide E]; exact hid)), unhide b0⟩
    · have hu' : (underK d.k hi) = false := by simpa using hu
      have E := hide (show false = R by rw [unhide hR, unhide W]; simp [hk, hu'])
      go_enter Tryz.func103, Tryz.ntmps103
      go_wp2_with (first | (go_at_call 55; refine (l04Key_any d.k _).mono ?_; rintro e w1 ⟨rfl, rfl⟩) | (go_at_call 75; refine (l04Under_any d.k hi _).mono ?_; rintro e w1 ⟨rfl, rfl⟩) | (go_at_call 57; refine (l01In_any d.to 0 1000 _).mono ?_; rintro e w1 ⟨rfl, rfl⟩; rw [hid]))
      go_ret
      exact ⟨ret_bool (by first | exact unhide E | (rw [← unhide E]; simp) | (rw [← unhide E]; exact hid)), unhide b0⟩
  · have hk' : (keyK d.k) = false := by simpa using hk
    have E := hide (show false = R by rw [unhide hR, unhide W]; simp [hk'])
    go_enter Tryz.func103, Tryz.ntmps103
    go_wp2_with (first | (go_at_call 55; refine (l04Key_any d.k _).mono ?_; rintro e w1 ⟨rfl, rfl⟩) | (go_at_call 75; refine (l04Under_any d.k hi _).mono ?_; rintro e w1 ⟨rfl, rfl⟩) | (go_at_call 57; refine (l01In_any d.to 0 1000 _).mono ?_; rintro e w1 ⟨rfl, rfl⟩; rw [hid]))
    go_ret
    exact ⟨ret_bool (by first | exact unhide E | (rw [← unhide E]; simp) | (rw [← unhide E]; exact hid)), unhide b0⟩
end Go.Proofs.YtbhkmmdcdfjbkaaGreat

namespace Go.Proofs.YtbhkmmdcdfjbkaaGreat
open Go.RowKit

theorem here_get {hs : List PpH} {gs : List Bool} {idx : List RefD} {k : Nat} (h1 : k < hs.length) (h2 : k < gs.length) : getP (trd hs gs idx).here (k : Int) = if gs[k] then none else some hs[k].X := by
  rw [getP_nat]
  have hl : k < (trd hs gs idx).here.length := by simp [trd, TreD.here]; omega
  rw [List.getElem?_eq_getElem hl]
  simp [trd, TreD.here]
theorem here_out {hs : List PpH} {gs : List Bool} {idx : List RefD} {x : Int} (h : (hs.length : Int) ≤ x) : getP (trd hs gs idx).here x = none := by
  obtain ⟨k, rfl⟩ : ∃ k : Nat, x = (k : Int) := ⟨x.toNat, by omega⟩
  rw [getP_nat, List.getElem?_eq_none (by simp [trd, TreD.here]; omega)]
  rfl
theorem here_many {hs : List PpH} {gs : List Bool} {idx : List RefD} {k : Nat} (h1 : k < hs.length) (h2 : k < gs.length) : manyT ((trd hs gs idx).here.take (k + 1)) = manyT ((trd hs gs idx).here.take k) + (if gs[k] then 0 else 1) := by
  rw [here_at h1 h2]
  unfold manyT
  rw [List.countP_append]
  cases gs[k] <;> rfl
theorem goT_none {ps : List (Option PageD)} {m : Nat} {x : Int} {low : ByteArray} (h : getP ps x = none) : goT ps (m + 1) x low = false := by unfold goT; rw [h]
theorem goT_other {ps : List (Option PageD)} {m : Nat} {x : Int} {low : ByteArray} {p : PageD} (h : getP ps x = some p) (hl : p.lo ≠ low) : goT ps (m + 1) x low = false := by unfold goT; rw [h]; simp only; rw [decide_eq_false hl]; rfl
theorem goT_next {ps : List (Option PageD)} {m : Nat} {x : Int} {low : ByteArray} {p : PageD} (h : getP ps x = some p) (hl : p.lo = low) : goT ps (m + 1) x low = goT ps m (riP p) (hiP p) := by
  conv => lhs; unfold goT
  rw [h]
  simp only
  rw [decide_eq_true hl, Bool.true_and]
set_option maxRecDepth 100000 in
set_option maxHeartbeats 4000000 in
theorem l05Whole_any (ap : Option Addr) (np cp : Nat) (ag : Option Addr) (cg : Nat) (ai : Option Addr) (ni ci : Nat) (hs : List PpH) (gs : List Bool) (idx : List RefD) (w : World) (hT : TrIn w ap np cp ag np cg ai ni hs gs idx) (hn : np ≤ 30) (hc : ∀ h ∈ hs, h.s1.n ≤ 100000) :
    Calls Tryz.prog 74 #[.agg #[.slice ap np cp, .slice ag np cg, .slice ai ni ci]] w fun e w' => e = .returned (.bool (goT (trd hs gs idx).here (manyT (trd hs gs idx).here) 0 ⟨#[]⟩)) ∧ Below w.heap.size w w' := by
  have b0 : ∀ o, Below w.heap.size w (w.alloc o) := fun o => (Below.refl _ _).alloc (Nat.le_refl _) _
  have lp := hT.plen
  have lg := hT.glen
  have hhl : (trd hs gs idx).here.length = np := by simp [trd, TreD.here]; omega
  have BW := hide (b0 (.cells #[.slice ap np cp, .slice ag np cg, .slice ai ni ci] 29))
  have T := hide (hT.below (unhide BW))
  have BT := hide (show ∀ u, Below (w.alloc (.cells #[.slice ap np cp, .slice ag np cg, .slice ai ni ci] 29)).heap.size (w.alloc (.cells #[.slice ap np cp, .slice ag np cg, .slice ai ni ci] 29)) u → Below w.heap.size w u from fun u hu => (unhide BW).trans (hu.mono (unhide BW).size))
  have t0 : (w.alloc (.cells #[.slice ap np cp, .slice ag np cg, .slice ai ni ci] 29)).cell? ⟨w.heap.size, 0, none⟩ = some (.slice ap np cp) := by simp
  have t1 : (w.alloc (.cells #[.slice ap np cp, .slice ag np cg, .slice ai ni ci] 29)).cell? ⟨w.heap.size, 1, none⟩ = some (.slice ag np cg) := by simp
  obtain ⟨G, hG⟩ : ∃ G, G = goT (trd hs gs idx).here (manyT (trd hs gs idx).here) 0 ⟨#[]⟩ := ⟨_, rfl⟩
  rw [← hG]
  have HG := hide hG
  clear hG hT BW
  go_enter Tryz.func74, Tryz.ntmps74
  go_wp2_with fail
  generalize w.alloc (.cells #[.slice ap np cp, .slice ag np cg, .slice ai ni ci] 29) = W at *
  go_loopw [3, 4] (fun c i wr => ∃ k : Nat, k ≤ np ∧ i = .int .i64 k ∧ c = .int .i64 ((manyT ((trd hs gs idx).here.take k) : Nat) : Int) ∧ Hid (wr = W)) (fun _ i _ => np - (intOf i).toNat)
  case atStart => exact ⟨0, Nat.zero_le _, rfl, rfl, by first | exact hide rfl | exact hide trivial⟩
  case round =>
    obtain ⟨k, hk, rfl, rfl, hww⟩ := hrel
    have hww := unhide hww
    subst wr
    by_cases hlt : k < np
    · have hk1 : k < hs.length := by omega
      have hk2 : k < gs.length := by omega
      obtain ⟨b', off', hag, g0⟩ := RowC.at (unhide T).gone (j := k) (u := .bool gs[k]) (by rw [List.getElem?_map, List.getElem?_eq_getElem hk2]; rfl)
      subst hag
      have ST := hide (here_many (idx := idx) hk1 hk2)
      have hml : manyT ((trd hs gs idx).here.take k) ≤ 30 := by have h1 := manyT_le ((trd hs gs idx).here.take k); rw [List.length_take] at h1; omega
      generalize gs[k] = gk at *
      cases gk
      · have ST2 := hide (show manyT ((trd hs gs idx).here.take (k + 1)) = manyT ((trd hs gs idx).here.take k) + 1 from unhide ST)
        generalize manyT ((trd hs gs idx).here.take k) = mm at *
        go_wp2_with fail
        go_roundw
        case rel => exact ⟨k + 1, by omega, by go_num, by rw [unhide ST2]; go_num, by first | exact hide rfl | exact hide trivial⟩
        case measure => simp [intOf]; omega
      · have ST2 := hide (show manyT ((trd hs gs idx).here.take (k + 1)) = manyT ((trd hs gs idx).here.take k) from unhide ST)
        go_wp2_with fail
        go_roundw
        case rel => exact ⟨k + 1, by omega, by go_num, by rw [unhide ST2], by first | exact hide rfl | exact hide trivial⟩
        case measure => simp [intOf]; omega
    · obtain rfl : k = np := by omega
      have Z := hide (show (trd hs gs idx).here.take k = (trd hs gs idx).here from List.take_of_length_le (by omega))
      rw [unhide Z] at *
      have hml : manyT (trd hs gs idx).here ≤ 30 := by have h1 := manyT_le (trd hs gs idx).here; omega
      clear Z
      go_wp2_with fail
      obtain ⟨M, hM⟩ : ∃ M, M = manyT (trd hs gs idx).here := ⟨_, rfl⟩
      rw [← hM] at hml HG
      rw [← hM]
      clear hM
      go_loopw [5, 6, 7] (fun x l i wr => ∃ (j : Nat) (y : Int) (low : ByteArray), j ≤ M ∧ x = .int .i64 y ∧ l = .string low ∧ i = .int .i64 j ∧ Hid (G = goT (trd hs gs idx).here (M - j) y low) ∧ Below W.heap.size W wr) (fun _ _ i _ => M - (intOf i).toNat)
      case atStart => exact ⟨0, 0, ⟨#[]⟩, Nat.zero_le _, rfl, rfl, rfl, HG, Below.refl _ _⟩
      case round =>
        obtain ⟨j, y, low, hj, rfl, rfl, rfl, hg, hb⟩ := hrel
        have bR := hide (unhide BT _ hb)
        have s0 := (hb.cell (p := ⟨w.heap.size, 0, none⟩) (cell_lt t0)).trans t0
        have s1 := (hb.cell (p := ⟨w.heap.size, 1, none⟩) (cell_lt t1)).trans t1
        by_cases hlt2 : j < M
        case neg =>
          obtain rfl : j = M := by omega
          have E := hide (show (decide (y < 0) && low.toList.isEmpty) = G by
            rw [unhide hg, Nat.sub_self]
            rfl)
          clear hg
          cases hy : decide (y < 0) with
          | true =>
            have hy1 : y < 0 := of_decide_eq_true hy
            rw [hy] at E
            go_wp2_with fail
            go_ret
            exact ⟨ret_bool (by rw [← unhide E]; rfl), unhide bR⟩
          | false =>
            have hy1 : ¬ y < 0 := of_decide_eq_false hy
            rw [hy] at E
            go_wp2_with fail
            go_ret
            exact ⟨ret_bool (by rw [← unhide E]; rfl), unhide bR⟩
        obtain ⟨m, hm⟩ : ∃ m, M - j = m + 1 := ⟨M - j - 1, by omega⟩
        rw [hm] at hg
        have hm2 : m = M - (j + 1) := by omega
        by_cases hy : y < 0
        · have E := hide (show false = G by rw [unhide hg, goT_none (getP_neg hy)])
          clear hg
          go_wp2_with fail
          go_ret
          exact ⟨ret_bool (unhide E), unhide bR⟩
        by_cases hy2 : (k : Int) ≤ y
        · have E := hide (show false = G by rw [unhide hg, goT_none (here_out (by omega))])
          clear hg
          go_wp2_with fail
          go_ret
          exact ⟨ret_bool (unhide E), unhide bR⟩
        obtain ⟨q, rfl⟩ : ∃ q : Nat, y = (q : Int) := ⟨y.toNat, by omega⟩
        have hq1 : q < hs.length := by omega
        have hq2 : q < gs.length := by omega
        have HGT := here_get (idx := idx) hq1 hq2
        obtain ⟨b', off', hag, g0⟩ := RowC.at ((unhide T).below hb).gone (j := q) (u := .bool gs[q]) (by rw [List.getElem?_map, List.getElem?_eq_getElem hq2]; rfl)
        subst hag
        obtain ⟨b, off, hap, hbl, d0, d1, d2, d3, d4⟩ := PpIn.cells ((unhide T).below hb).pgs hq1
        subst hap
        cases hgq : gs[q] with
        | true =>
          rw [hgq] at HGT g0
          have E := hide (show false = G by rw [unhide hg, goT_none HGT])
          clear hg HGT
          go_wp2_with fail
          go_ret
          exact ⟨ret_bool (unhide E), unhide bR⟩
        | false =>
          rw [hgq] at HGT g0
          have HB := hide (l04Bounds_any hs[q].X.lo hs[q].X.hi hs[q].X.r (.slice hs[q].s0.a hs[q].s0.n hs[q].s0.c) hs[q].s1.a hs[q].s1.n hs[q].s1.c hs[q].X.ds wr (drow_C (PpIn.sub ((unhide T).below hb).pgs hq1).2) (hc _ (List.getElem_mem hq1)))
          by_cases hlo : hs[q].X.lo = low
          case neg =>
            have E := hide (show false = G by rw [unhide hg, goT_other HGT hlo])
            have hne : (hs[q].X.lo.toList == low.toList) = false := by
              cases hq2 : (hs[q].X.lo.toList == low.toList) with
              | false => rfl
              | true => exact absurd (toList_inj (by simpa using hq2)) hlo
            clear hg HGT HB
            generalize hs[q] = pd at *
            obtain ⟨X, s0', s1'⟩ := pd
            simp only at d0 d1 d2 d3 d4 hne hlo
            go_wp2_with fail
            go_ret
            exact ⟨ret_bool (unhide E), unhide bR⟩
          have E := hide (show G = goT (trd hs gs idx).here m (riP hs[q].X) (hiP hs[q].X) by rw [unhide hg, goT_next HGT hlo])
          clear hg HGT
          subst hlo
          generalize hs[q] = pd at *
          obtain ⟨X, ⟨a0, n0, c0⟩, ⟨a1, n1, c1⟩⟩ := pd
          simp only at d0 d1 d2 d3 d4 HB E
          go_wp2_with fail
          refine (unhide HB).mono ?_
          rintro e w2 ⟨rfl, hb2⟩
          have bA := hide (hb.trans (hb2.mono hb.size))
          clear HB d0 d1 d2 d3 d4 g0 s0 s1 hb hb2
          go_wp2_with fail
          go_roundw
          case rel => exact ⟨j + 1, _, _, by omega, rfl, rfl, by go_num, (by rw [← hm2]; exact E), unhide bA⟩
          case measure => simp [intOf]; omega
end Go.Proofs.YtbhkmmdcdfjbkaaGreat

namespace Go.Proofs.YtbhkmmdcdfjbkaaGreat
open Go.RowKit

theorem count2 {α : Type} {P : α → Bool} : ∀ {l : List α} {i j : Nat} {x y : α}, l[i]? = some x → l[j]? = some y → i < j → P x = true → P y = true → 2 ≤ l.countP P
  | [], i, _, _, _, h, _, _, _, _ => by simp at h
  | z :: l, 0, j + 1, x, y, hx, hy, _, px, py => by
    simp only [List.getElem?_cons_zero, Option.some.injEq] at hx
    subst hx
    rw [List.countP_cons, if_pos px]
    have : 1 ≤ l.countP P := List.countP_pos_iff.2 ⟨y, List.mem_of_getElem? (by simpa using hy), py⟩
    omega
  | z :: l, i + 1, j + 1, x, y, hx, hy, hij, px, py => by
    have := count2 (P := P) (l := l) (i := i) (j := j) (by simpa using hx) (by simpa using hy) (by omega) px py
    rw [List.countP_cons]
    omega
/-- Pages that begin at a text or behind it, but ahead of another one. -/
def btP (low hi : ByteArray) (q : Option PageD) : Bool := geP low q && !geP hi q
theorem count_bt (low hi : ByteArray) (h : ltK low hi = true) : ∀ ps : List (Option PageD), cntGe ps low = ps.countP (btP low hi) + cntGe ps hi
  | [] => rfl
  | q :: ps => by
    have ih := count_bt low hi h ps
    unfold cntGe at *
    rw [List.countP_cons, List.countP_cons, List.countP_cons, ih]
    have key : (if geP low q = true then 1 else 0) = (if btP low hi q = true then 1 else 0) + (if geP hi q = true then 1 else 0) := by
      unfold btP
      cases h2 : geP hi q with
      | false => cases geP low q <;> rfl
      | true =>
        have : geP low q = true := by
          cases q with
          | none => cases h2
          | some r =>
            rw [geP_some, Bool.not_eq_true'] at h2 ⊢
            cases h3 : ltK r.lo low
            · rfl
            · have := ltK_trans h3 h
              rw [h2] at this
              cases this
        rw [this]
        rfl
    omega
theorem goT_count {ps : List (Option PageD)} (hok : ∀ p, some p ∈ ps → okP p = true) : ∀ (m : Nat) (id : Int) (low : ByteArray), goT ps m id low = true → m ≤ cntGe ps low
  | 0, _, _, _ => Nat.zero_le _
  | m + 1, id, low, h => by
    cases hg : getP ps id with
    | none => rw [goT_none hg] at h; cases h
    | some p =>
      by_cases hl : p.lo = low
      · rw [goT_next hg hl] at h
        have hm := getP_mem hg
        subst hl
        cases m with
        | zero => exact cntGe_here hm
        | succ m =>
          have ih := goT_count hok (m + 1) _ _ h
          cases hn : getP ps (riP p) with
          | none => rw [goT_none hn] at h; cases h
          | some p2 =>
            obtain ⟨b1, b2⟩ := okP_bd (hok p hm)
            cases he : (hiP p).toList.isEmpty with
            | true => rw [b1 he, getP_neg (by omega)] at hn; cases hn
            | false =>
              have := cntGe_next hm (b2 he).1
              omega
      · rw [goT_other hg hl] at h; cases h
/-- What stands to the right of a page. -/
def NextP (ps : List (Option PageD)) (p : PageD) : Prop := (riP p = -1 ∧ (hiP p).toList.isEmpty = true) ∨ (ltK p.lo (hiP p) = true ∧ ∃ p2, getP ps (riP p) = some p2 ∧ p2.lo = hiP p)
theorem getP_at {ps : List (Option PageD)} {x : Int} {p : PageD} (h : getP ps x = some p) : ∃ k : Nat, x = (k : Int) ∧ ps[k]? = some (some p) := by
  by_cases h0 : x < 0
  · rw [getP_neg h0] at h; cases h
  · obtain ⟨k, rfl⟩ : ∃ k : Nat, x = (k : Int) := ⟨x.toNat, by omega⟩
    refine ⟨k, rfl, ?_⟩
    rw [getP_nat] at h
    cases hq : ps[k]? with
    | none => rw [hq] at h; cases h
    | some q => rw [hq] at h; rw [show q = some p from h]
theorem one_at {ps : List (Option PageD)} {P : Option PageD → Bool} {x y : Int} {p q : PageD} (h1 : ps.countP P ≤ 1) (hp : getP ps x = some p) (hq : getP ps y = some q) (pp : P (some p) = true) (pq : P (some q) = true) : q = p := by
  obtain ⟨i, rfl, hi⟩ := getP_at hp
  obtain ⟨j, rfl, hj⟩ := getP_at hq
  rcases Nat.lt_trichotomy i j with h | h | h
  · have := count2 hi hj h pp pq; omega
  · subst h
    rw [hi] at hj
    injection hj with hj
    injection hj with hj
    exact hj.symm
  · have := count2 hj hi h pq pp; omega
theorem goT_cover {ps : List (Option PageD)} (hok : ∀ p, some p ∈ ps → okP p = true) : ∀ (m : Nat) (id : Int) (low : ByteArray), goT ps m id low = true → cntGe ps low ≤ m → ∀ (y : Int) (q : PageD), getP ps y = some q → ltK q.lo low = false → NextP ps q
  | 0, _, low, _, hc, y, q, hq, hl => by
    exfalso
    have : 1 ≤ cntGe ps low := List.countP_pos_iff.2 ⟨_, getP_mem hq, by rw [geP_some, hl]; rfl⟩
    omega
  | m + 1, id, low, h, hc, y, q, hq, hl => by
    cases hg : getP ps id with
    | none => rw [goT_none hg] at h; cases h
    | some p =>
      by_cases hlo : p.lo = low
      · rw [goT_next hg hlo] at h
        have hm := getP_mem hg
        subst hlo
        obtain ⟨b1, b2⟩ := okP_bd (hok p hm)
        cases m with
        | zero =>
          have hone : q = p := one_at (P := geP p.lo) hc hg hq (by rw [geP_some, ltK_irr]; rfl) (by rw [geP_some, hl]; rfl)
          subst hone
          unfold goT at h
          rw [Bool.and_eq_true] at h
          exact .inl ⟨b1 h.2, h.2⟩
        | succ m =>
          cases hn : getP ps (riP p) with
          | none => rw [goT_none hn] at h; cases h
          | some p2 =>
            cases he : (hiP p).toList.isEmpty with
            | true => rw [b1 he, getP_neg (by omega)] at hn; cases hn
            | false =>
              have hlt := (b2 he).1
              have h2 : p2.lo = hiP p := by
                by_cases e : p2.lo = hiP p
                · exact e
                · rw [goT_other hn e] at h; cases h
              have hcb := count_bt p.lo (hiP p) hlt ps
              have hge := goT_count hok _ _ _ h
              have hpos : 1 ≤ ps.countP (btP p.lo (hiP p)) := List.countP_pos_iff.2 ⟨_, hm, by unfold btP; rw [geP_some, geP_some, ltK_irr, hlt]; rfl⟩
              cases hqh : ltK q.lo (hiP p) with
              | false => exact goT_cover hok (m + 1) _ _ h (by omega) y q hq hqh
              | true =>
                have hone : q = p := one_at (P := btP p.lo (hiP p)) (by omega) hg hq (by unfold btP; rw [geP_some, geP_some, ltK_irr, hlt]; rfl) (by unfold btP; rw [geP_some, geP_some, hl, hqh]; rfl)
                subst hone
                exact .inr ⟨hlt, p2, hn, h2⟩
      · rw [goT_other hg hlo] at h; cases h
theorem ltK_none (a : ByteArray) : ltK a ⟨#[]⟩ = false := by
  unfold ltK
  rw [show (⟨#[]⟩ : ByteArray).toList = [] by rw [ByteArray.toList_eq]]
  cases a.toList <;> rfl
theorem next_of {ps : List (Option PageD)} (hok : ∀ p, some p ∈ ps → okP p = true) (hg : goT ps (manyT ps) 0 ⟨#[]⟩ = true) {y : Int} {q : PageD} (h : getP ps y = some q) : NextP ps q :=
  goT_cover hok (manyT ps) 0 ⟨#[]⟩ hg (cntGe_many ps _) y q h (ltK_none _)
end Go.Proofs.YtbhkmmdcdfjbkaaGreat

namespace Go.Proofs.YtbhkmmdcdfjbkaaGreat
open Go.RowKit

theorem bounds_bad {lo hi : ByteArray} {r : Int} (h : okBounds lo hi r = false) : 40 < lo.size ∨ (lo.size ≤ 40 ∧ 40 < hi.size) ∨ (lo.size ≤ 40 ∧ hi.size ≤ 40 ∧ hi.toList.isEmpty = true ∧ r < -1) ∨ (lo.size ≤ 40 ∧ hi.size ≤ 40 ∧ hi.toList.isEmpty = true ∧ 0 ≤ r) ∨
    (lo.size ≤ 40 ∧ hi.size ≤ 40 ∧ hi.toList.isEmpty = false ∧ Op.bytesLess lo.toList hi.toList = false) ∨ (lo.size ≤ 40 ∧ hi.size ≤ 40 ∧ hi.toList.isEmpty = false ∧ Op.bytesLess lo.toList hi.toList = true ∧ 1000 < r) ∨ (lo.size ≤ 40 ∧ hi.size ≤ 40 ∧ hi.toList.isEmpty = false ∧ Op.bytesLess lo.toList hi.toList = true ∧ r < 0) := by
  unfold okBounds ltK idK at h
  by_cases h1 : lo.size ≤ 40
  · by_cases h2 : hi.size ≤ 40
    · rw [decide_eq_true h1, decide_eq_true h2] at h
      cases h3 : hi.toList.isEmpty with
      | true =>
        rw [h3] at h
        have : r ≠ -1 := by simpa using h
        by_cases h4 : r < -1
        · exact .inr (.inr (.inl ⟨h1, h2, rfl, h4⟩))
        · exact .inr (.inr (.inr (.inl ⟨h1, h2, rfl, by omega⟩)))
      | false =>
        rw [h3] at h
        cases h5 : Op.bytesLess lo.toList hi.toList with
        | false => exact .inr (.inr (.inr (.inr (.inl ⟨h1, h2, rfl, rfl⟩))))
        | true =>
          rw [h5] at h
          have : ¬ (0 ≤ r ∧ r ≤ 1000) := by simpa using h
          by_cases h4 : r < 0
          · exact .inr (.inr (.inr (.inr (.inr (.inr ⟨h1, h2, rfl, rfl, h4⟩)))))
          · exact .inr (.inr (.inr (.inr (.inr (.inl ⟨h1, h2, rfl, rfl, by omega⟩)))))
    · exact .inr (.inl ⟨h1, by omega⟩)
  · exact .inl (by omega)
theorem bounds_good {lo hi : ByteArray} {r : Int} (h : okBounds lo hi r = true) : lo.size ≤ 40 ∧ hi.size ≤ 40 ∧ ((hi.toList.isEmpty = true ∧ r = -1) ∨ (hi.toList.isEmpty = false ∧ Op.bytesLess lo.toList hi.toList = true ∧ 0 ≤ r ∧ r ≤ 1000)) := by
  unfold okBounds ltK idK at h
  cases h3 : hi.toList.isEmpty with
  | true =>
    rw [h3] at h
    simp at h
    exact ⟨h.1.1, h.1.2, .inl ⟨rfl, h.2⟩⟩
  | false =>
    rw [h3] at h
    simp at h
    exact ⟨h.1.1, h.1.2, .inr ⟨rfl, h.2.1, h.2.2.1, h.2.2.2⟩⟩
/-- Outside the bounds it answers no. -/
def inB (r : Int) : Bool := decide (-1 ≤ r) && decide (r ≤ 1000)
theorem l01In_r (r : Int) (w : World) : Calls Tryz.prog 57 #[.int .i64 r, .int .i64 (-1), .int .i64 1000] w fun e w' => e = .returned (.bool (inB r)) ∧ w' = w := l01In_any r (-1) 1000 w
set_option maxRecDepth 100000 in
set_option maxHeartbeats 4000000 in
theorem specPageOK_bounds (lo hi : ByteArray) (r : Int) (vb vc : Value) (w : World) (h : okBounds lo hi r = false) :
    Calls Tryz.prog 72 #[.agg #[.string lo, .string hi, .int .i64 r, vb, vc]] w fun e w' => e = .returned (.bool false) ∧ Below w.heap.size w w' := by
  have b0 := hide (show Below w.heap.size w (w.alloc (.cells #[.string lo, .string hi, .int .i64 r, vb, vc] 67)) from (Below.refl _ _).alloc (Nat.le_refl _) _)
  rcases bounds_bad h with h1 | ⟨h1, h2⟩ | ⟨h1, h2, h3, h4⟩ | ⟨h1, h2, h3, h4⟩ | ⟨h1, h2, h3, h4⟩ | ⟨h1, h2, h3, h4, h5⟩ | ⟨h1, h2, h3, h4, h5⟩
  · go_enter Tryz.func72, Tryz.ntmps72
    go_wp2_with fail
    go_ret
    exact ⟨rfl, unhide b0⟩
  · go_enter Tryz.func72, Tryz.ntmps72
    go_wp2_with fail
    go_ret
    exact ⟨rfl, unhide b0⟩
  · have hq : inB r = false := by unfold inB; rw [decide_eq_false (by omega)]; rfl
    go_enter Tryz.func72, Tryz.ntmps72
    go_wp2_with (go_at_call 57; refine (l01In_r r _).mono ?_; rintro e w1 ⟨rfl, rfl⟩)
    go_ret
    exact ⟨rfl, unhide b0⟩
  · have hd : decide (r < 0) = false := decide_eq_false (by omega)
    cases hq : inB r
    · go_enter Tryz.func72, Tryz.ntmps72
      go_wp2_with (go_at_call 57; refine (l01In_r r _).mono ?_; rintro e w1 ⟨rfl, rfl⟩)
      go_ret
      exact ⟨rfl, unhide b0⟩
    · go_enter Tryz.func72, Tryz.ntmps72
      go_wp2_with (go_at_call 57; refine (l01In_r r _).mono ?_; rintro e w1 ⟨rfl, rfl⟩)
      go_ret
      exact ⟨rfl, unhide b0⟩
  · go_enter Tryz.func72, Tryz.ntmps72
    go_wp2_with fail
    go_ret
    exact ⟨rfl, unhide b0⟩
  · have hq : inB r = false := by unfold inB; rw [decide_eq_false (show ¬ r ≤ 1000 by omega)]; simp
    go_enter Tryz.func72, Tryz.ntmps72
    go_wp2_with (go_at_call 57; refine (l01In_r r _).mono ?_; rintro e w1 ⟨rfl, rfl⟩)
    go_ret
    exact ⟨rfl, unhide b0⟩
  · have hd : decide (r < 0) = true := decide_eq_true (by omega)
    cases hq : inB r
    · go_enter Tryz.func72, Tryz.ntmps72
      go_wp2_with (go_at_call 57; refine (l01In_r r _).mono ?_; rintro e w1 ⟨rfl, rfl⟩)
      go_ret
      exact ⟨rfl, unhide b0⟩
    · go_enter Tryz.func72, Tryz.ntmps72
      go_wp2_with (go_at_call 57; refine (l01In_r r _).mono ?_; rintro e w1 ⟨rfl, rfl⟩)
      go_ret
      exact ⟨rfl, unhide b0⟩
end Go.Proofs.YtbhkmmdcdfjbkaaGreat

namespace Go.Proofs.YtbhkmmdcdfjbkaaGreat
open Go.RowKit

theorem heap_cell2 {w : World} {b : Nat} {cs : Array Value} {t : TypeId} (h : w.heap[b]? = some (.cells cs t (0, 0))) (j : Nat) : w.cell? ⟨b, j, none⟩ = cs[j]? := by simp [World.cell?, h]
theorem okE_cases {lo hi : ByteArray} {es : List EntD} {j : Nat} (hj : j < es.length) (h : okAtE lo hi es j = false) : keyK es[j].k = false ∨ (keyK es[j].k = true ∧ 100 < es[j].v.size) ∨ (keyK es[j].k = true ∧ es[j].v.size ≤ 100 ∧ Op.bytesLess es[j].k.toList lo.toList = true) ∨
    (keyK es[j].k = true ∧ es[j].v.size ≤ 100 ∧ Op.bytesLess es[j].k.toList lo.toList = false ∧ underK es[j].k hi = false) ∨ (keyK es[j].k = true ∧ es[j].v.size ≤ 100 ∧ Op.bytesLess es[j].k.toList lo.toList = false ∧ underK es[j].k hi = true ∧ 0 < j ∧ ∀ h : j - 1 < es.length, Op.bytesLess (es[j - 1]'h).k.toList es[j].k.toList = false) := by
  rw [← follows_at hj] at h
  have hL : lastOK (es.take j) es[j] = (j == 0 || match es[j - 1]? with | some p => ltK p.k es[j].k | none => false) := by
    have := follows_at (lo := lo) (hi := hi) hj
    unfold lastOK
    cases j with
    | zero => simp
    | succ j =>
      rw [takeG_snoc es j (by omega), List.getLast?_append]
      simp [List.getElem?_eq_getElem (show j < es.length by omega)]
  unfold okEnt inK valK ltK at h
  cases h1 : keyK es[j].k with
  | false => exact .inl rfl
  | true =>
    refine .inr ?_
    by_cases h2 : es[j].v.size ≤ 100
    · refine .inr ?_
      cases h3 : Op.bytesLess es[j].k.toList lo.toList with
      | true => exact .inl ⟨rfl, h2, rfl⟩
      | false =>
        refine .inr ?_
        cases h4 : underK es[j].k hi with
        | false => exact .inl ⟨rfl, h2, rfl, rfl⟩
        | true =>
          refine .inr ⟨rfl, h2, rfl, rfl, ?_⟩
          unfold underK ltK at h4
          rw [h1, h3, h4, decide_eq_true h2, hL] at h
          simp only [Bool.not_false, Bool.and_true, Bool.true_and, Bool.or_eq_false_iff, beq_eq_false_iff_ne] at h
          refine ⟨by omega, fun hh => ?_⟩
          have := h.2
          rw [List.getElem?_eq_getElem hh] at this
          exact this
    · exact .inl ⟨rfl, by omega⟩
theorem okE_good {lo hi : ByteArray} {es : List EntD} {j : Nat} (hj : j < es.length) (h : okAtE lo hi es j = true) : keyK es[j].k = true ∧ es[j].v.size ≤ 100 ∧ Op.bytesLess es[j].k.toList lo.toList = false ∧ underK es[j].k hi = true ∧ (∀ (h0 : 0 < j), Op.bytesLess (es[j - 1]'(by omega)).k.toList es[j].k.toList = true) := by
  have h' := h
  unfold okAtE at h
  rw [List.getElem?_eq_getElem hj] at h
  simp only [Bool.and_eq_true] at h
  have h1 := h.1
  unfold okEnt inK valK ltK at h1
  simp only [Bool.and_eq_true, Bool.not_eq_true', decide_eq_true_eq] at h1
  refine ⟨h1.1.1, h1.1.2, h1.2.1, ?_, fun h0 => ?_⟩
  · unfold underK ltK
    exact h1.2.2
  · have h2 := h.2
    rw [List.getElem?_eq_getElem (show j - 1 < es.length by omega)] at h2
    simp only [Bool.or_eq_true, beq_iff_eq] at h2
    rcases h2 with h2 | h2
    · omega
    · exact h2
theorem three_dec {a b n m : Nat} (h1 : a ≤ 40) (h2 : b ≤ 40) (h : ¬ n ≤ 32) : (decide ((40 : Int) < (a : Int)) || decide ((40 : Int) < (b : Int)) || decide ((32 : Int) < (n : Int))) = (decide (32 < n) || decide (12 < m)) := by
  rw [decide_eq_false (show ¬ ((40 : Int) < (a : Int)) by omega), decide_eq_false (show ¬ ((40 : Int) < (b : Int)) by omega), decide_eq_true (show (32 : Int) < (n : Int) by omega), decide_eq_true (show 32 < n by omega)]
  simp
theorem one_dec {n m : Nat} (h : ¬ n ≤ 32) : true = (decide (32 < n) || decide (12 < m)) := by
  rw [decide_eq_true (show 32 < n by omega)]
  simp
theorem four_dec {a b n m : Nat} (h1 : a ≤ 40) (h2 : b ≤ 40) : (decide ((40 : Int) < (a : Int)) || decide ((40 : Int) < (b : Int)) || decide ((32 : Int) < (n : Int)) || decide ((12 : Int) < (m : Int))) = (decide (32 < n) || decide (12 < m)) := by
  rw [decide_eq_false (show ¬ ((40 : Int) < (a : Int)) by omega), decide_eq_false (show ¬ ((40 : Int) < (b : Int)) by omega), show decide ((32 : Int) < (n : Int)) = decide (32 < n) from decide_eq_decide.2 (by omega), show decide ((12 : Int) < (m : Int)) = decide (12 < m) from decide_eq_decide.2 (by omega)]
  simp
set_option maxRecDepth 100000 in
set_option maxHeartbeats 16000000 in
theorem specPageOK_any (lo hi : ByteArray) (r : Int) (ab : Option Addr) (nb cb : Nat) (es : List EntD) (ac : Option Addr) (nc cc : Nat) (ds : List DelD) (w : World) (hE : ERow w ab nb es) (hD : DRow w ac nc ds) (hcb : ab = none → cb = 0) :
    Calls Tryz.prog 72 #[pgv lo hi r ab nb cb ac nc cc] w fun e w' => e = .returned (.bool (okPage lo hi r es ds)) ∧ Below w.heap.size w w' := by
  have LE := hide hE.1
  have LD := hide hD.1
  have RE := hide hE
  have RD := hide hD
  clear hE hD
  by_cases hB : okBounds lo hi r = true
  · have HB := hide hB
    have b0 : Below w.heap.size w (w.alloc (.cells #[.string lo, .string hi, .int .i64 r, .slice ab nb cb, .slice ac nc cc] 67)) := (Below.refl _ _).alloc (Nat.le_refl _) _
    have k0 := hide (heap_alloc_new w (.cells #[.string lo, .string hi, .int .i64 r, .slice ab nb cb, .slice ac nc cc] 67))
    go_enter Tryz.func72, Tryz.ntmps72
    go_upto_region 1 with fail
    go_cut [55] (fun c wc => ∃ b, c = .bool b ∧ Hid (b = (decide (32 < nb) || decide (12 < nc))) ∧ wc = w.alloc (.cells #[.string lo, .string hi, .int .i64 r, .slice ab nb cb, .slice ac nc cc] 67))
    case first =>
      obtain ⟨h1, h2, h3⟩ := bounds_good hB
      have hq : inB r = true := by unfold inB; rw [decide_eq_true (by omega), decide_eq_true (by omega)]; rfl
      clear hB
      rcases h3 with ⟨h3, h4⟩ | ⟨h3, h4, h5, h6⟩
      · have hd : decide (r < 0) = true := decide_eq_true (by omega)
        have h4' : r < 0 := by omega
        clear h4
        by_cases g1 : nb ≤ 32
        · go_wp2_with (go_at_call 57; refine (l01In_r r _).mono ?_; rintro e w1 ⟨rfl, rfl⟩)
          all_goals go_meet
          all_goals exact ⟨_, rfl, by first | exact four_dec h1 h2 | exact three_dec h1 h2 g1 | exact one_dec g1 | trace_state, rfl⟩
        · go_wp2_with (go_at_call 57; refine (l01In_r r _).mono ?_; rintro e w1 ⟨rfl, rfl⟩)
          all_goals go_meet
          all_goals exact ⟨_, rfl, by first | exact four_dec h1 h2 | exact three_dec h1 h2 g1 | exact one_dec g1 | trace_state, rfl⟩
      · have hd : decide (r < 0) = false := decide_eq_false (by omega)
        by_cases g1 : nb ≤ 32
        · go_wp2_with (go_at_call 57; refine (l01In_r r _).mono ?_; rintro e w1 ⟨rfl, rfl⟩)
          all_goals go_meet
          all_goals exact ⟨_, rfl, by first | exact four_dec h1 h2 | exact three_dec h1 h2 g1 | exact one_dec g1 | trace_state, rfl⟩
        · go_wp2_with (go_at_call 57; refine (l01In_r r _).mono ?_; rintro e w1 ⟨rfl, rfl⟩)
          all_goals go_meet
          all_goals exact ⟨_, rfl, by first | exact four_dec h1 h2 | exact three_dec h1 h2 g1 | exact one_dec g1 | trace_state, rfl⟩
    case rest =>
      obtain ⟨b, rfl, hb, rfl⟩ := hcut
      clear hB
      cases b with
      | true =>
        have OF := hide (show okPage lo hi r es ds = false by
          have := unhide hb
          by_cases h4 : nb ≤ 32
          · refine ok_ds ?_
            rw [unhide LD]
            rw [decide_eq_false (show ¬ 32 < nb by omega)] at this
            simp at this
            omega
          · exact ok_es (by rw [unhide LE]; exact h4))
        go_wp2_with fail
        go_ret
        exact ⟨ret_bool (unhide OF).symm, b0⟩
      | false =>
        have h45 : nb ≤ 32 ∧ nc ≤ 12 := by have := unhide hb; simp at this; omega
        obtain ⟨h4, h5⟩ := h45
        clear hb
        have B0 := hide b0
        have z0 : (w.alloc (.cells #[.string lo, .string hi, .int .i64 r, .slice ab nb cb, .slice ac nc cc] 67)).heap.size = w.heap.size + 1 := by simp
        clear b0
        go_wp2_with fail
        generalize w.alloc (.cells #[.string lo, .string hi, .int .i64 r, .slice ab nb cb, .slice ac nc cc] 67) = W0 at *
        go_loopw [3] (fun i wr => ∃ (j : Nat), i = .int .i64 (j : Int) ∧ j ≤ nb ∧ Hid (∀ i, i < j → okAtE lo hi es i = true) ∧ Hid (Below (w.heap.size + 1) W0 wr)) (fun i _ => nb - (intOf i).toNat)
        case atStart => exact ⟨0, rfl, Nat.zero_le _, fun i h => absurd h (Nat.not_lt_zero _), Below.refl _ _⟩
        case round =>
          obtain ⟨j, rfl, hj, hK, hB⟩ := hrel
          have kr := hide (((unhide hB).block w.heap.size (by omega)).trans (unhide k0))
          have BW := hide ((unhide B0).trans ((unhide hB).mono (by omega)))
          have p0 : wr.cell? ⟨w.heap.size, 0, none⟩ = some (.string lo) := heap_cell2 (unhide kr) 0
          have p1 : wr.cell? ⟨w.heap.size, 1, none⟩ = some (.string hi) := heap_cell2 (unhide kr) 1
          have p3 : wr.cell? ⟨w.heap.size, 3, none⟩ = some (.slice ab nb cb) := heap_cell2 (unhide kr) 3
          have hsr : w.heap.size + 1 ≤ wr.heap.size := by have := (unhide hB).size; omega
          by_cases hlt : j < nb
          · have hje : j < es.length := by have := unhide LE; omega
            obtain ⟨b, off, rfl, c0, c1⟩ := ((unhide RE).below (unhide BW)).2 j hje
            have bA : Below wr.heap.size wr (wr.alloc (.cells #[.string es[j].k, .string es[j].v] 41)) := (Below.refl _ _).alloc (Nat.le_refl _) _
            have BA := hide ((unhide BW).trans (bA.mono (unhide BW).size))
            have BX := hide ((unhide hB).trans (bA.mono hsr))
            have q0 := (bA.cell (p := ⟨w.heap.size, 0, none⟩) (by show w.heap.size < _; omega)).trans p0
            have q1 := (bA.cell (p := ⟨w.heap.size, 1, none⟩) (by show w.heap.size < _; omega)).trans p1
            have q3 := (bA.cell (p := ⟨w.heap.size, 3, none⟩) (by show w.heap.size < _; omega)).trans p3
            by_cases hok : okAtE lo hi es j = true
            · obtain ⟨f1, f2, f3, f4, f5⟩ := okE_good hje hok
              have HOK := hide hok
              have F5 := hide f5
              clear hok f5
              by_cases hj0 : 0 < j
              · have hjp : j - 1 < es.length := by omega
                have f6 := unhide F5 hj0
                obtain ⟨b', off', he, x0, x1⟩ := (((unhide RE).below (unhide BW)).below bA).2 (j - 1) hjp
                injection he with he
                injection he with he1 he2
                subst he1 he2
                have hi1 : ((j : Int) - 1).toNat = j - 1 := by omega
                have hd1 : decide (0 < j) = true := decide_eq_true hj0
                have hd2 : decide ((0 : Int) < (j : Int)) = true := decide_eq_true (by omega)
                have hi2 : (0 : Int) ≤ (j : Int) - 1 := by omega
                have hi3 : (j : Int) - 1 < (nb : Int) := by omega
                clear bA F5
                generalize es[j - 1] = ep at *
                generalize es[j] = em at *
                first | (have fv : decide ((100 : Int) < (em.v.size : Int)) = false := decide_eq_false (by omega)) | (have fv : decide ((100 : Int) < (em.v.size : Int)) = true := decide_eq_true (by omega)) | skip
                go_wp2_with fail
                go_quiet ((first | (go_at_call 55; exact Calls.quiet_of_same (l04Key_any _ _)) | (go_at_call 75; exact Calls.quiet_of_same (l04Under_any _ _ _))))
                go_wp2_with fail
                go_roundw
                case rel => exact ⟨j + 1, by go_num, by omega, fun i hi' => by
                  rcases Nat.lt_or_ge i j with h | h
                  · exact unhide hK i h
                  · obtain rfl : i = j := by omega
                    exact unhide HOK, bel_drewN (unhide BX) _⟩
                case measure => simp [intOf]; omega
              · clear F5 bA
                have hd1 : decide (0 < j) = false := decide_eq_false hj0
                have hd2 : decide ((0 : Int) < (j : Int)) = false := decide_eq_false (by omega)
                generalize es[j] = em at *
                first | (have fv : decide ((100 : Int) < (em.v.size : Int)) = false := decide_eq_false (by omega)) | (have fv : decide ((100 : Int) < (em.v.size : Int)) = true := decide_eq_true (by omega)) | skip
                go_wp2_with fail
                go_quiet ((first | (go_at_call 55; exact Calls.quiet_of_same (l04Key_any _ _)) | (go_at_call 75; exact Calls.quiet_of_same (l04Under_any _ _ _))))
                go_wp2_with fail
                go_roundw
                case rel => exact ⟨j + 1, by go_num, by omega, fun i hi' => by
                  rcases Nat.lt_or_ge i j with h | h
                  · exact unhide hK i h
                  · obtain rfl : i = j := by omega
                    exact unhide HOK, bel_drewN (unhide BX) _⟩
                case measure => simp [intOf]; omega
            · have hok : okAtE lo hi es j = false := by simpa using hok
              have OF := hide (ok_base (r := r) (ds := ds) hje hok)
              rcases okE_cases hje hok with f1 | ⟨f1, f2⟩ | ⟨f1, f2, f3⟩ | ⟨f1, f2, f3, f4⟩ | ⟨f1, f2, f3, f4, hj0, f5⟩
              · clear hok bA
                generalize es[j] = em at *
                first | (have fv : decide ((100 : Int) < (em.v.size : Int)) = false := decide_eq_false (by omega)) | (have fv : decide ((100 : Int) < (em.v.size : Int)) = true := decide_eq_true (by omega)) | skip
                go_wp2_with fail
                go_quiet ((first | (go_at_call 55; exact Calls.quiet_of_same (l04Key_any _ _)) | (go_at_call 75; exact Calls.quiet_of_same (l04Under_any _ _ _))))
                go_wp2_with fail
                go_ret
                exact ⟨ret_bool (unhide OF).symm, bel_drewN (unhide BA) _⟩
              · clear hok bA
                generalize es[j] = em at *
                first | (have fv : decide ((100 : Int) < (em.v.size : Int)) = false := decide_eq_false (by omega)) | (have fv : decide ((100 : Int) < (em.v.size : Int)) = true := decide_eq_true (by omega)) | skip
                go_wp2_with fail
                go_quiet ((first | (go_at_call 55; exact Calls.quiet_of_same (l04Key_any _ _)) | (go_at_call 75; exact Calls.quiet_of_same (l04Under_any _ _ _))))
                go_wp2_with fail
                go_ret
                exact ⟨ret_bool (unhide OF).symm, bel_drewN (unhide BA) _⟩
              · clear hok bA
                generalize es[j] = em at *
                first | (have fv : decide ((100 : Int) < (em.v.size : Int)) = false := decide_eq_false (by omega)) | (have fv : decide ((100 : Int) < (em.v.size : Int)) = true := decide_eq_true (by omega)) | skip
                go_wp2_with fail
                go_quiet ((first | (go_at_call 55; exact Calls.quiet_of_same (l04Key_any _ _)) | (go_at_call 75; exact Calls.quiet_of_same (l04Under_any _ _ _))))
                go_wp2_with fail
                go_ret
                exact ⟨ret_bool (unhide OF).symm, bel_drewN (unhide BA) _⟩
              · clear hok bA
                generalize es[j] = em at *
                first | (have fv : decide ((100 : Int) < (em.v.size : Int)) = false := decide_eq_false (by omega)) | (have fv : decide ((100 : Int) < (em.v.size : Int)) = true := decide_eq_true (by omega)) | skip
                go_wp2_with fail
                go_quiet ((first | (go_at_call 55; exact Calls.quiet_of_same (l04Key_any _ _)) | (go_at_call 75; exact Calls.quiet_of_same (l04Under_any _ _ _))))
                go_wp2_with fail
                go_ret
                exact ⟨ret_bool (unhide OF).symm, bel_drewN (unhide BA) _⟩
              · have hjp : j - 1 < es.length := by omega
                have f6 := f5 hjp
                clear f5 hok
                obtain ⟨b', off', he, x0, x1⟩ := (((unhide RE).below (unhide BW)).below bA).2 (j - 1) hjp
                injection he with he
                injection he with he1 he2
                subst he1 he2
                have hi1 : ((j : Int) - 1).toNat = j - 1 := by omega
                have hd1 : decide (0 < j) = true := decide_eq_true hj0
                have hd2 : decide ((0 : Int) < (j : Int)) = true := decide_eq_true (by omega)
                have hi2 : (0 : Int) ≤ (j : Int) - 1 := by omega
                have hi3 : (j : Int) - 1 < (nb : Int) := by omega
                clear bA
                generalize es[j - 1] = ep at *
                generalize es[j] = em at *
                first | (have fv : decide ((100 : Int) < (em.v.size : Int)) = false := decide_eq_false (by omega)) | (have fv : decide ((100 : Int) < (em.v.size : Int)) = true := decide_eq_true (by omega)) | skip
                go_wp2_with fail
                go_quiet ((first | (go_at_call 55; exact Calls.quiet_of_same (l04Key_any _ _)) | (go_at_call 75; exact Calls.quiet_of_same (l04Under_any _ _ _))))
                go_wp2_with fail
                go_ret
                exact ⟨ret_bool (unhide OF).symm, bel_drewN (unhide BA) _⟩
          · obtain rfl : j = nb := by omega
            have K1 := hide (show ∀ i, i < es.length → okAtE lo hi es i = true from fun i hi' => unhide hK i (by rw [← unhide LE]; exact hi'))
            go_wp2_with fail
            clear hK p0 p1 p3
            have P0 := hide kr
            have HH0 := hide (show highE hi (ds.take 0) = hi by rfl)
            obtain ⟨wv, hwv⟩ : ∃ wv : World, wv = wr := ⟨_, rfl⟩
            rw [← hwv] at kr hB BW hsr ⊢
            clear hwv P0
            go_loopw [5, 6] (fun h i wz => ∃ (q : Nat), i = .int .i64 (q : Int) ∧ h = .string (highE hi (ds.take q)) ∧ q ≤ nc ∧ Hid (∀ i, i < q → okAtD lo hi ds i = true) ∧ Hid (Below (w.heap.size + 1) W0 wz)) (fun _ i _ => nc - (intOf i).toNat)
            case atStart => exact ⟨0, rfl, rfl, Nat.zero_le _, fun i h => absurd h (Nat.not_lt_zero _), unhide hB⟩
            case round =>
              clear hB BW hsr kr
              obtain ⟨q, rfl, rfl, hq, hK, hB⟩ := hrel
              have kr := hide (((unhide hB).block w.heap.size (by omega)).trans (unhide k0))
              have BW := hide ((unhide B0).trans ((unhide hB).mono (by omega)))
              have hsr : w.heap.size + 1 ≤ wr.heap.size := by have := (unhide hB).size; omega
              by_cases hlt : q < nc
              · have hqe : q < ds.length := by have := unhide LD; omega
                have p0 : wr.cell? ⟨w.heap.size, 0, none⟩ = some (.string lo) := heap_cell2 (unhide kr) 0
                have p4 : wr.cell? ⟨w.heap.size, 4, none⟩ = some (.slice ac nc cc) := heap_cell2 (unhide kr) 4
                obtain ⟨b, off, rfl, c0, c1, c2, c3⟩ := ((unhide RD).below (unhide BW)).2 q hqe
                have OA := hide (okAtD_at (lo := lo) (hi := hi) hqe)
                have HH := hide ((congrArg (highE hi) (takeG_snoc ds q hqe)).trans (highE_snoc hi (ds.take q) ds[q]))
                have OF := hide (fun (h : okAtD lo hi ds q = false) => ok_chain (r := r) (es := es) hqe h)
                have RD2 := hide ((unhide RD).below (unhide BW))
                have DC := hide (show ∀ w', Below wr.heap.size wr w' → w'.cell? ⟨b, off + q * 4, none⟩ = some (.int .i64 ds[q].kind) ∧ w'.cell? ⟨b, off + q * 4 + 1, none⟩ = some (.string ds[q].k) from fun w' hw' => ⟨(hw'.cell (p := ⟨b, off + q * 4, none⟩) (cell_lt c0)).trans c0, (hw'.cell (p := ⟨b, off + q * 4 + 1, none⟩) (cell_lt c1)).trans c1⟩)
                generalize ds[q] = d at *
                generalize highE hi (ds.take q) = h1 at *
                go_wp2_with fail
                go_region_with (go_at_call 103; refine (l04Delta_any d lo h1 _).mono ?_; rintro e w3 ⟨rfl, hb3⟩)
                all_goals
                  replace hb3 : Below wr.heap.size wr w3 := by first | exact hb3 | exact bel_of_drew hb3 | exact bel_of_drewN hb3
                  obtain ⟨x0, x1⟩ := unhide DC w3 hb3
                  have y4 := (hb3.cell (p := ⟨w.heap.size, 4, none⟩) (by show w.heap.size < _; omega)).trans p4
                  have B3 := hide ((unhide hB).trans (hb3.mono hsr))
                  have BW3 := hide ((unhide BW).trans (hb3.mono (unhide BW).size))
                  clear hb3 p0 p4 c0 c1 c2 c3
                  by_cases hok : okDel lo h1 d = true
                  · rw [hok]
                    have HOK := hide ((unhide OA).trans hok)
                    by_cases hk : d.kind = 3
                    · have hk' : (d.kind == 3) = true := by simp [hk]
                      have HK := hide hk
                      clear hk
                      go_wp2_with fail
                      go_roundw
                      case rel => exact ⟨q + 1, by go_num, by rw [unhide HH, if_pos (unhide HK)], by omega, fun i hi' => by
                        rcases Nat.lt_or_ge i q with h | h
                        · exact unhide hK i h
                        · obtain rfl : i = q := by omega
                          exact unhide HOK, unhide B3⟩
                      case measure => simp [intOf]; omega
                    · have hk' : (d.kind == 3) = false := by simp [hk]
                      have HK := hide hk
                      clear hk
                      go_wp2_with fail
                      go_roundw
                      case rel => exact ⟨q + 1, by go_num, by rw [unhide HH, if_neg (unhide HK)], by omega, fun i hi' => by
                        rcases Nat.lt_or_ge i q with h | h
                        · exact unhide hK i h
                        · obtain rfl : i = q := by omega
                          exact unhide HOK, unhide B3⟩
                      case measure => simp [intOf]; omega
                  · have hok : okDel lo h1 d = false := by simpa using hok
                    rw [hok]
                    have OF2 := hide (unhide OF ((unhide OA).trans hok))
                    go_wp2_with fail
                    go_ret
                    exact ⟨ret_bool (unhide OF2).symm, unhide BW3⟩
              · obtain rfl : q = nc := by omega
                have K2 := hide (show ∀ i, i < ds.length → okAtD lo hi ds i = true from fun i hi' => unhide hK i (by rw [← unhide LD]; exact hi'))
                have p0 : wr.cell? ⟨w.heap.size, 0, none⟩ = some (.string lo) := heap_cell2 (unhide kr) 0
                have p1 : wr.cell? ⟨w.heap.size, 1, none⟩ = some (.string hi) := heap_cell2 (unhide kr) 1
                have p2 : wr.cell? ⟨w.heap.size, 2, none⟩ = some (.int .i64 r) := heap_cell2 (unhide kr) 2
                have p3 : wr.cell? ⟨w.heap.size, 3, none⟩ = some (.slice ab j cb) := heap_cell2 (unhide kr) 3
                have p4 : wr.cell? ⟨w.heap.size, 4, none⟩ = some (.slice ac q cc) := heap_cell2 (unhide kr) 4
                have OO := hide (ok_all (unhide HB) (by rw [unhide LE]; exact h4) (by rw [unhide LD]; exact h5) (unhide K1) (unhide K2))
                go_wp2_with fail
                refine (l04Entries_any lo hi r ab j cb es ac q cc ds wr ((unhide RE).below (unhide BW)) ((unhide RD).below (unhide BW)) (by omega) (by omega) hcb).mono ?_
                rintro x w5 ⟨g5, cap5, rfl, _, hb5⟩
                have BW5 := hide ((unhide BW).trans (hb5.mono (unhide BW).size))
                clear hb5
                go_wp2_with fail
                go_ret
                exact ⟨ret_bool (by rw [unhide OO]; exact decide_eq_decide.2 (by omega)), unhide BW5⟩
  · have hB : okBounds lo hi r = false := by simpa using hB
    rw [ok_bounds hB]
    exact specPageOK_bounds lo hi r _ _ w hB
end Go.Proofs.YtbhkmmdcdfjbkaaGreat

namespace Go.Proofs.YtbhkmmdcdfjbkaaGreat
open Go.RowKit

theorem manyT_pos {ps : List (Option PageD)} {x : Int} {p : PageD} (h : getP ps x = some p) : 0 < manyT ps := by
  unfold manyT
  exact List.countP_pos_iff.2 ⟨_, getP_mem h, rfl⟩
/-- The first Ref is that of page 0 alone. -/
def zeroRef (idx : List RefD) : Bool := match idx[0]? with
  | some x => x.low.toList.isEmpty && decide (x.id = 0)
  | none => false
theorem okT_spec {hs : List PpH} {gs : List Bool} {idx : List RefD} (h : 1 ≤ hs.length ∧ hs.length ≤ 30 ∧ gs.length = hs.length ∧ idx.length ≤ hs.length) (hp : ∀ i (h1 : i < hs.length) (h2 : i < gs.length), pgOK hs[i].X gs[i] = true) (hi : okIdx (trd hs gs idx).here idx = true) (h0 : 0 < idx.length) : okT (trd hs gs idx) = (zeroRef idx && goT (trd hs gs idx).here (manyT (trd hs gs idx).here) 0 ⟨#[]⟩) := by
  rw [okT_rest h hp, hi, Bool.and_true, Bool.and_comm]
  have r0 : okRef (trd hs gs idx).here idx 0 = true := by
    unfold okIdx at hi
    rw [List.all_eq_true] at hi
    exact hi 0 (List.mem_range.2 h0)
  have e0 := List.getElem?_eq_getElem h0
  unfold zeroIdx zeroRef
  unfold okRef at r0
  rw [e0] at r0
  rw [e0]
  generalize idx[0] = x at *
  simp only [Bool.and_eq_true] at r0
  have r0 := r0.1
  simp only
  cases hid : decide (x.id = 0) with
  | false => simp
  | true =>
    have hid := of_decide_eq_true hid
    rw [hid] at r0
    cases hg : getP (trd hs gs idx).here 0 with
    | none => rw [hg] at r0; cases r0
    | some p =>
      rw [hg] at r0
      have r0 := of_decide_eq_true r0
      have hm := manyT_pos hg
      cases he : x.low.toList.isEmpty with
      | true => simp
      | false =>
        obtain ⟨m, hm2⟩ : ∃ m, manyT (trd hs gs idx).here = m + 1 := ⟨manyT (trd hs gs idx).here - 1, by omega⟩
        rw [hm2, goT_other hg (fun e => by
          rw [← r0, e, ByteArray.toList_eq] at he
          cases he)]
        rfl
theorem okT_idx {hs : List PpH} {gs : List Bool} {idx : List RefD} (hi : okIdx (trd hs gs idx).here idx = false) : okT (trd hs gs idx) = false := by
  unfold okT
  show (((_ && okIdx (trd hs gs idx).here idx) && _) && _) = false
  rw [hi]
  simp
theorem okT_none {hs : List PpH} {gs : List Bool} {idx : List RefD} (h : idx.length = 0) : okT (trd hs gs idx) = false := by
  unfold okT trd
  simp only
  rw [decide_eq_false (fun e => by have := e.2.2.2.1; omega)]
  rfl
theorem pgOK_parts (p : PageD) (g : Bool) : pgOK p g = (okP p && (!g || noP p)) := by
  cases g with
  | false => show okP p = _; simp
  | true =>
    show noP p = _
    cases h : noP p with
    | true => rw [noP_ok h]; rfl
    | false => simp
theorem pgOK_chain {p : PageD} {g : Bool} (h : pgOK p g = true) : p.ds.length ≤ 100000 := by
  rw [pgOK_parts, Bool.and_eq_true] at h
  have h := h.1
  unfold okP okPage at h
  simp only [Bool.and_eq_true, decide_eq_true_eq] at h
  omega
set_option maxRecDepth 100000 in
set_option maxHeartbeats 4000000 in
theorem specTreeOK_any (ap : Option Addr) (np cp : Nat) (ag : Option Addr) (ng cg : Nat) (ai : Option Addr) (ni ci : Nat) (hs : List PpH) (gs : List Bool) (idx : List RefD) (w : World) (hT : TrIn w ap np cp ag ng cg ai ni hs gs idx) (hcb : ∀ h ∈ hs, h.s0.a = none → h.s0.c = 0) :
    Calls Tryz.prog 36 #[.agg #[.slice ap np cp, .slice ag ng cg, .slice ai ni ci]] w fun e w' => e = .returned (.bool (okT (trd hs gs idx))) ∧ Below w.heap.size w w' := by
  have b0 : ∀ o, Below w.heap.size w (w.alloc o) := fun o => (Below.refl _ _).alloc (Nat.le_refl _) _
  have lp := hT.plen
  have lg := hT.glen
  have li := hT.ix.1
  have BW := hide (b0 (.cells #[.slice ap np cp, .slice ag ng cg, .slice ai ni ci] 29))
  have BT := hide (show ∀ u, Below (w.alloc (.cells #[.slice ap np cp, .slice ag ng cg, .slice ai ni ci] 29)).heap.size (w.alloc (.cells #[.slice ap np cp, .slice ag ng cg, .slice ai ni ci] 29)) u → Below w.heap.size w u from fun u hu => (unhide BW).trans (hu.mono (unhide BW).size))
  have t0 : (w.alloc (.cells #[.slice ap np cp, .slice ag ng cg, .slice ai ni ci] 29)).cell? ⟨w.heap.size, 0, none⟩ = some (.slice ap np cp) := by simp
  have t1 : (w.alloc (.cells #[.slice ap np cp, .slice ag ng cg, .slice ai ni ci] 29)).cell? ⟨w.heap.size, 1, none⟩ = some (.slice ag ng cg) := by simp
  have t2 : (w.alloc (.cells #[.slice ap np cp, .slice ag ng cg, .slice ai ni ci] 29)).cell? ⟨w.heap.size, 2, none⟩ = some (.slice ai ni ci) := by simp
  by_cases h1 : ¬ (1 ≤ np ∧ np ≤ 30)
  · have Z := hide (show false = okT (trd hs gs idx) from (okT_size (hs := hs) (gs := gs) (idx := idx) fun e => by omega).symm)
    have HI := hide (fun W => l01In_any (np : Int) 1 30 W)
    rw [show (decide ((1 : Int) ≤ (np : Int)) && decide ((np : Int) ≤ 30)) = false by simp; omega] at HI

    clear hT t0 t1 t2 BT
    go_enter Tryz.func36, Tryz.ntmps36
    go_wp2_with fail
    refine (unhide HI _).mono ?_
    rintro e w2 ⟨rfl, hw2⟩
    subst w2
    clear HI
    go_wp2_with fail
    go_ret
    exact ⟨ret_bool (unhide Z), b0 _⟩
  by_cases h3 : ng ≠ np
  · have Z := hide (show false = okT (trd hs gs idx) from (okT_size (hs := hs) (gs := gs) (idx := idx) fun e => by omega).symm)
    have HI := hide (fun W => l01In_any (np : Int) 1 30 W)
    rw [show (decide ((1 : Int) ≤ (np : Int)) && decide ((np : Int) ≤ 30)) = true by simp; omega] at HI
    have h3 : ((ng : Int) != (np : Int)) = true := by simp; omega
    clear hT t0 t1 t2 BT
    go_enter Tryz.func36, Tryz.ntmps36
    go_wp2_with fail
    refine (unhide HI _).mono ?_
    rintro e w2 ⟨rfl, hw2⟩
    subst w2
    clear HI
    go_wp2_with fail
    go_ret
    exact ⟨ret_bool (unhide Z), b0 _⟩
  by_cases h4 : ni = 0
  · have Z := hide (show false = okT (trd hs gs idx) from (okT_none (hs := hs) (gs := gs) (idx := idx) (by omega)).symm)
    have HI := hide (fun W => l01In_any (np : Int) 1 30 W)
    rw [show (decide ((1 : Int) ≤ (np : Int)) && decide ((np : Int) ≤ 30)) = true by simp; omega] at HI
    have h3 : ((ng : Int) != (np : Int)) = false := by simp; omega
    subst h4
    clear hT t0 t1 t2 BT
    go_enter Tryz.func36, Tryz.ntmps36
    go_wp2_with fail
    refine (unhide HI _).mono ?_
    rintro e w2 ⟨rfl, hw2⟩
    subst w2
    clear HI
    go_wp2_with fail
    go_ret
    exact ⟨ret_bool (unhide Z), b0 _⟩
  by_cases h5 : np < ni
  · have Z := hide (show false = okT (trd hs gs idx) from (okT_size (hs := hs) (gs := gs) (idx := idx) fun e => by omega).symm)
    have HI := hide (fun W => l01In_any (np : Int) 1 30 W)
    rw [show (decide ((1 : Int) ≤ (np : Int)) && decide ((np : Int) ≤ 30)) = true by simp; omega] at HI
    have h3 : ((ng : Int) != (np : Int)) = false := by simp; omega
    have h4 : ((ni : Int) == 0) = false := by simp; omega
    clear hT t0 t1 t2 BT
    go_enter Tryz.func36, Tryz.ntmps36
    go_wp2_with fail
    refine (unhide HI _).mono ?_
    rintro e w2 ⟨rfl, hw2⟩
    subst w2
    clear HI
    go_wp2_with fail
    go_ret
    exact ⟨ret_bool (unhide Z), b0 _⟩
  obtain rfl : ng = np := by omega
  have hsz : 1 ≤ hs.length ∧ hs.length ≤ 30 ∧ gs.length = hs.length ∧ idx.length ≤ hs.length := ⟨by omega, by omega, by omega, by omega⟩
  have T := hide (hT.below (unhide BW))
  have HI := hide (fun W => l01In_any (ng : Int) 1 30 W)
  rw [show (decide ((1 : Int) ≤ (ng : Int)) && decide ((ng : Int) ≤ 30)) = true by simp; omega] at HI
  have j4 : ((ni : Int) == 0) = false := by simp; omega
  clear hT BW
  go_enter Tryz.func36, Tryz.ntmps36
  go_wp2_with fail
  refine (unhide HI _).mono ?_
  rintro e w2 ⟨rfl, hw2⟩
  subst w2
  clear HI
  go_wp2_with fail
  generalize w.alloc (.cells #[.slice ap ng cp, .slice ag ng cg, .slice ai ni ci] 29) = W at *
  go_loopw [4] (fun i wr => ∃ k : Nat, k ≤ ng ∧ i = .int .i64 k ∧ Hid (∀ i (_ : i < k) (h1 : i < hs.length) (h2 : i < gs.length), pgOK hs[i].X gs[i] = true) ∧ Below W.heap.size W wr) (fun i _ => ng - (intOf i).toNat)
  case atStart => exact ⟨0, by omega, rfl, (fun i hi => absurd hi (Nat.not_lt_zero _)), Below.refl _ _⟩
  case round =>
    obtain ⟨k, hk, rfl, hok, hb⟩ := hrel
    have s0 := (hb.cell (p := ⟨w.heap.size, 0, none⟩) (cell_lt t0)).trans t0
    have s1 := (hb.cell (p := ⟨w.heap.size, 1, none⟩) (cell_lt t1)).trans t1
    have s2 := (hb.cell (p := ⟨w.heap.size, 2, none⟩) (cell_lt t2)).trans t2
    have bR := hide (unhide BT _ hb)
    by_cases hlt : k < ng
    case neg =>
      obtain rfl : k = ng := by omega
      have OKP := hide (fun i h1 h2 => unhide hok i (by omega) h1 h2)
      have CH := hide (show ∀ h ∈ hs, h.s1.n ≤ 100000 from fun h hh => by
        obtain ⟨i, hi, e⟩ := List.getElem_of_mem hh
        have h1 := pgOK_chain (unhide OKP i hi (by omega))
        have h2 := (PpIn.sub (unhide T).pgs hi).2
        rw [← e, rowC_len h2]
        exact h1)
      have REST := hide (fun hi => okT_spec hsz (unhide OKP) hi (by omega))
      have HW := hide (fun u hu => l05Whole_any ap k cp ag cg ai ni ci hs gs idx u ((unhide T).below hu) (by omega) (unhide CH))
      clear hok OKP CH s0 s1 s2 bR
      go_wp2_with fail
      go_loopw [5] (fun i wr => ∃ j : Nat, j ≤ ni ∧ i = .int .i64 j ∧ Hid (∀ i, i < j → okRef (trd hs gs idx).here idx i = true) ∧ Below W.heap.size W wr) (fun i _ => ni - (intOf i).toNat)
      case atStart => exact ⟨0, by omega, rfl, (fun i hi => absurd hi (Nat.not_lt_zero _)), hb⟩
      case round =>
        clear hb
        obtain ⟨j, hj, rfl, hok, hb⟩ := hrel
        have s0 := (hb.cell (p := ⟨w.heap.size, 0, none⟩) (cell_lt t0)).trans t0
        have s1 := (hb.cell (p := ⟨w.heap.size, 1, none⟩) (cell_lt t1)).trans t1
        have s2 := (hb.cell (p := ⟨w.heap.size, 2, none⟩) (cell_lt t2)).trans t2
        have bR := hide (unhide BT _ hb)
        by_cases hlt2 : j < ni
        case neg =>
          obtain rfl : j = ni := by omega
          have R := hide (unhide REST (okIdx_true fun i hi => unhide hok i (by omega)))
          have h0 : 0 < idx.length := by omega
          obtain ⟨b, off, hai, d0, d1⟩ := ((unhide T).below hb).ix.2 0 h0
          subst hai
          rw [Nat.zero_mul] at d0 d1
          simp only [Nat.add_zero] at d0 d1
          have Z := hide (show zeroRef idx = (idx[0].low.toList.isEmpty && decide (idx[0].id = 0)) by unfold zeroRef; rw [List.getElem?_eq_getElem h0])
          have HW2 := hide (unhide HW wr hb)
          clear hok HW REST
          generalize idx[0] = x at *
          obtain ⟨low, id⟩ := x
          simp only at d0 d1 Z
          generalize goT (trd hs gs idx).here (manyT (trd hs gs idx).here) 0 ⟨#[]⟩ = GG at *
          by_cases hz : low = ⟨#[]⟩ ∧ id = 0
          · obtain ⟨rfl, rfl⟩ := hz
            have R2 := hide (show GG = okT (trd hs gs idx) by rw [unhide R, unhide Z, ByteArray.toList_eq]; rfl)
            go_wp2_with fail
            refine (unhide HW2).mono ?_
            rintro e w3 ⟨rfl, hb3⟩
            have bB := hide (unhide BT _ (hb.trans (hb3.mono hb.size)))
            clear HW2 d0 d1 s0 s1 s2
            go_wp2_with fail
            go_ret
            exact ⟨ret_bool (unhide R2), unhide bB⟩
          · have R2 := hide (show false = okT (trd hs gs idx) by
              rw [unhide R, unhide Z]
              cases he : low.toList.isEmpty with
              | false => rfl
              | true =>
                rw [decide_eq_false (fun e => hz ⟨by
                  rw [List.isEmpty_iff] at he
                  exact toList_inj (by rw [he, ByteArray.toList_eq]), e⟩)]
                rfl)
            clear R Z HW2
            by_cases hl : low.toList = []
            · have hid : ¬ id = 0 := fun e => hz ⟨toList_inj (by rw [hl, ByteArray.toList_eq]), e⟩
              clear hz
              go_wp2_with fail
              go_ret
              exact ⟨ret_bool (unhide R2), unhide bR⟩
            · clear hz
              go_wp2_with fail
              go_ret
              exact ⟨ret_bool (unhide R2), unhide bR⟩
        have hk2 : j < idx.length := by omega
        obtain ⟨b, off, hai, d0, d1⟩ := ((unhide T).below hb).ix.2 j hk2
        subst hai
        have B1 := hide (hb.alloc hb.size (.cells #[.string idx[j].low, .int .i64 idx[j].id] 69))
        have KN := hide (fun h => okRef_none (ps := (trd hs gs idx).here) hk2 h)
        have KO := hide (fun p h => okRef_other (ps := (trd hs gs idx).here) hk2 (p := p) h)
        have KH := hide (fun p h => okRef_here (ps := (trd hs gs idx).here) hk2 (p := p) h)
        have KT := hide (fun h => okRef_turn (ps := (trd hs gs idx).here) hk2 h)
        have IXF := hide (fun h => (okT_idx (okIdx_false (ps := (trd hs gs idx).here) hk2 h)).symm)
        have PRE := hide (fun (h : 0 < j) (u : World) (hb : Below W.heap.size W u) => ((unhide T).below hb).ix.2 (j - 1) (by omega))
        have ST := hide (show okRef (trd hs gs idx).here idx j = true → ∀ i, i < j + 1 → okRef (trd hs gs idx).here idx i = true from fun h i hi => by
          by_cases e : i < j
          · exact unhide hok i e
          · obtain rfl : i = j := by omega
            exact h)
        clear hok
        generalize hrk : idx[j] = rk at *
        obtain ⟨low, id⟩ := rk
        simp only at d0 d1 B1 KN KO KH KT
        go_upto_region 13 with fail
        clear d0 d1
        have y0 : (wr.alloc (.cells #[.string low, .int .i64 id] 69)).cell? ⟨wr.heap.size, 0, none⟩ = some (.string low) := by simp
        have y1 : (wr.alloc (.cells #[.string low, .int .i64 id] 69)).cell? ⟨wr.heap.size, 1, none⟩ = some (.int .i64 id) := by simp
        generalize wr.alloc (.cells #[.string low, .int .i64 id] 69) = V at *
        generalize wr.heap.size = bx at *
        clear hb s0 s1 s2 bR
        have s0 := ((unhide B1).cell (p := ⟨w.heap.size, 0, none⟩) (cell_lt t0)).trans t0
        have s1 := ((unhide B1).cell (p := ⟨w.heap.size, 1, none⟩) (cell_lt t1)).trans t1
        have s2 := ((unhide B1).cell (p := ⟨w.heap.size, 2, none⟩) (cell_lt t2)).trans t2
        have BE := hide (fun n => unhide BT _ (bel_drewN (unhide B1) n))
        have hwn : IntKind.i64.wrap ((k : Int) - 1) = (k : Int) - 1 := by rw [IntKind.wrap_i64]; omega
        have HI := hide (fun u => l01In_any id 0 ((k : Int) - 1) u)
        by_cases hin : 0 ≤ id ∧ id ≤ (k : Int) - 1
        case neg =>
          rw [show (decide ((0 : Int) ≤ id) && decide (id ≤ (k : Int) - 1)) = false by simp; omega] at HI
          have Z := hide (unhide IXF (unhide KN (by
            by_cases hneg : id < 0
            · exact getP_neg hneg
            · exact here_out (by omega))))
          go_quiet ((go_at_call 57; exact Calls.quiet_of_same (unhide HI _)))
          go_wp2_with fail
          go_ret
          exact ⟨ret_bool (unhide Z), unhide BE _⟩
        rw [show (decide ((0 : Int) ≤ id) && decide (id ≤ (k : Int) - 1)) = true by simp; omega] at HI
        obtain ⟨q, rfl⟩ : ∃ q : Nat, id = (q : Int) := ⟨id.toNat, by omega⟩
        have hq1 : q < hs.length := by omega
        have hq2 : q < gs.length := by omega
        have hq3 : q < k := by omega
        have HGT := here_get (idx := idx) hq1 hq2
        obtain ⟨b', off', hag, g0⟩ := RowC.at ((unhide T).below (unhide B1)).gone (j := q) (u := .bool gs[q]) (by rw [List.getElem?_map, List.getElem?_eq_getElem hq2]; rfl)
        subst hag
        obtain ⟨b2, off2, hap, hbl, d0, d1, d2, d3, d4⟩ := PpIn.cells ((unhide T).below (unhide B1)).pgs hq1
        subst hap
        cases hgq : gs[q] with
        | true =>
          rw [hgq] at HGT g0
          have Z := hide (unhide IXF (unhide KN HGT))
          clear HGT d0 d1 d2 d3 d4
          go_quiet ((go_at_call 57; exact Calls.quiet_of_same (unhide HI _)))
          go_wp2_with fail
          go_ret
          exact ⟨ret_bool (unhide Z), unhide BE _⟩
        | false =>
          rw [hgq] at HGT g0
          by_cases hlo : hs[q].X.lo = low
          case neg =>
            have Z := hide (unhide IXF (unhide KO _ HGT hlo))
            have hne : (hs[q].X.lo.toList == low.toList) = false := by
              cases hq2 : (hs[q].X.lo.toList == low.toList) with
              | false => rfl
              | true => exact absurd (toList_inj (by simpa using hq2)) hlo
            clear HGT d1 d2 d3 d4
            generalize hs[q] = pd at *
            obtain ⟨X, s0', s1'⟩ := pd
            simp only at d0 hne hlo
            go_quiet ((go_at_call 57; exact Calls.quiet_of_same (unhide HI _)))
            go_wp2_with fail
            go_ret
            exact ⟨ret_bool (unhide Z), unhide BE _⟩
          have KH2 := hide (unhide KH _ HGT hlo)
          rw [hlo] at d0
          clear HGT d1 d2 d3 d4 hlo
          by_cases hk0 : j = 0
          · have E := hide (unhide KH2 fun h => by omega)
            subst hk0
            go_quiet ((go_at_call 57; exact Calls.quiet_of_same (unhide HI _)))
            go_wp2_with fail
            go_roundw
            case rel => exact ⟨1, by omega, by go_num, unhide ST (unhide E), bel_drewN (unhide B1) _⟩
            case measure => simp [intOf]; omega
          have hkp : 0 < j := by omega
          obtain ⟨b4, off4, e4, z0, _⟩ := unhide PRE hkp _ (unhide B1)
          injection e4 with e4
          injection e4 with e5 e6
          subst e5 e6
          have hi1 : ((j : Int) - 1).toNat = j - 1 := by omega
          have hwr : IntKind.i64.wrap ((j : Int) - 1) = (j : Int) - 1 := by rw [IntKind.wrap_i64]; omega
          have hin : 0 ≤ (j : Int) - 1 ∧ (j : Int) - 1 < (ni : Int) := by omega
          have hgt : decide ((0 : Int) < (j : Int)) = true := decide_eq_true (by omega)
          have KT2 := hide (unhide KT hkp)
          have KH3 := hide (fun (e : ltK (idx[j - 1]'(by omega)).low low = true) => unhide KH2 fun _ => e)
          clear PRE KT KH2
          generalize idx[j - 1] = py at *
          obtain ⟨plow, pid⟩ := py
          simp only at z0 KT2 KH3
          unfold ltK at KT2 KH3
          cases hlt3 : Op.bytesLess plow.toList low.toList with
          | false =>
            have Z := hide (unhide IXF (unhide KT2 hlt3))
            go_quiet ((go_at_call 57; exact Calls.quiet_of_same (unhide HI _)))
            go_wp2_with fail
            go_ret
            exact ⟨ret_bool (unhide Z), unhide BE _⟩
          | true =>
            have E := hide (unhide KH3 hlt3)
            go_quiet ((go_at_call 57; exact Calls.quiet_of_same (unhide HI _)))
            go_wp2_with fail
            go_roundw
            case rel => exact ⟨j + 1, by omega, by go_num, unhide ST (unhide E), bel_drewN (unhide B1) _⟩
            case measure => simp [intOf]; omega
    have hk1 : k < hs.length := by omega
    have hk2 : k < gs.length := by omega
    obtain ⟨b', off', hag, g0⟩ := RowC.at ((unhide T).below hb).gone (j := k) (u := .bool gs[k]) (by rw [List.getElem?_map, List.getElem?_eq_getElem hk2]; rfl)
    subst hag
    obtain ⟨b, off, hap, hbl, d0, d1, d2, d3, d4⟩ := PpIn.cells ((unhide T).below hb).pgs hk1
    subst hap
    have SUB := PpIn.sub ((unhide T).below hb).pgs hk1
    have HP := hide (specPageOK_any hs[k].X.lo hs[k].X.hi hs[k].X.r hs[k].s0.a hs[k].s0.n hs[k].s0.c hs[k].X.es hs[k].s1.a hs[k].s1.n hs[k].s1.c hs[k].X.ds wr (erow_C SUB.1) (drow_C SUB.2) (hcb _ (List.getElem_mem hk1)))
    have HN := hide (fun u => l05Empty_any hs[k].X.lo hs[k].X.hi hs[k].X.r hs[k].s0.a hs[k].s0.n hs[k].s0.c hs[k].s1.a hs[k].s1.n hs[k].s1.c u)
    rw [show emptyP hs[k].X.lo hs[k].X.hi hs[k].X.r hs[k].s0.n hs[k].s1.n = noP hs[k].X by
      unfold emptyP noP
      rw [rowC_len SUB.1, rowC_len SUB.2]] at HN
    have BAD := hide (fun e => okT_page (idx := idx) hk1 hk2 e)
    rw [pgOK_parts] at BAD
    have ST := hide (show pgOK hs[k].X gs[k] = true → ∀ i (_ : i < k + 1) (h1 : i < hs.length) (h2 : i < gs.length), pgOK hs[i].X gs[i] = true from fun h i hi h1 h2 => by
      by_cases e : i < k
      · exact unhide hok i e h1 h2
      · obtain rfl : i = k := by omega
        exact h)
    rw [pgOK_parts] at ST
    rw [show okPage hs[k].X.lo hs[k].X.hi hs[k].X.r hs[k].X.es hs[k].X.ds = okP hs[k].X from rfl] at HP
    clear SUB hok
    unfold pgv at HP
    generalize gs[k] = gk at *
    generalize okP hs[k].X = ok1 at *
    generalize noP hs[k].X = no1 at *
    generalize hs[k] = pd at *
    obtain ⟨X, ⟨a0, n0, c0⟩, ⟨a1, n1, c1⟩⟩ := pd
    simp only at d0 d1 d2 d3 d4 HP HN
    go_wp2_with fail
    refine (unhide HP).mono ?_
    rintro e w2 ⟨rfl, hb2⟩
    have bA := hide (hb.trans (hb2.mono hb.size))
    have s0' := (hb2.cell (p := ⟨w.heap.size, 0, none⟩) (cell_lt s0)).trans s0
    have s1' := (hb2.cell (p := ⟨w.heap.size, 1, none⟩) (cell_lt s1)).trans s1
    have g0' := (hb2.cell (p := ⟨b', off' + k, none⟩) (cell_lt g0)).trans g0
    have e0 := (hb2.cell (p := ⟨b, off + k * 5, none⟩) (cell_lt d0)).trans d0
    have e1 := (hb2.cell (p := ⟨b, off + k * 5 + 1, none⟩) (cell_lt d1)).trans d1
    have e2 := (hb2.cell (p := ⟨b, off + k * 5 + 2, none⟩) (cell_lt d2)).trans d2
    have e3 := (hb2.cell (p := ⟨b, off + k * 5 + 3, none⟩) (cell_lt d3)).trans d3
    have e4 := (hb2.cell (p := ⟨b, off + k * 5 + 4, none⟩) (cell_lt d4)).trans d4
    clear HP d0 d1 d2 d3 d4 g0 s0 s1 s2 hb hb2 bR
    cases ok1
    · have Z := hide (unhide BAD rfl)
      go_wp2_with fail
      go_ret
      exact ⟨ret_bool (unhide Z).symm, unhide BT _ (unhide bA)⟩
    cases gk
    · have Z := hide (unhide ST rfl)
      go_wp2_with fail
      go_roundw
      case rel => exact ⟨k + 1, by omega, by go_num, Z, unhide bA⟩
      case measure => simp [intOf]; omega
    go_wp2_with fail
    refine (unhide HN _).mono ?_
    rintro e w3 ⟨rfl, hb3⟩
    have bB := hide ((unhide bA).trans (hb3.mono (unhide bA).size))
    clear HN s0' s1' g0' e0 e1 e2 e3 e4
    cases no1
    · have Z := hide (unhide BAD rfl)
      go_wp2_with fail
      go_ret
      exact ⟨ret_bool (unhide Z).symm, unhide BT _ (unhide bB)⟩
    · have Z := hide (unhide ST rfl)
      go_wp2_with fail
      go_roundw
      case rel => exact ⟨k + 1, by omega, by go_num, Z, unhide bB⟩
      case measure => simp [intOf]; omega
end Go.Proofs.YtbhkmmdcdfjbkaaGreat

namespace Go.Proofs.YtbhkmmdcdfjbkaaGreat
open Go.RowKit

/-- A Ref as an entry. -/
def refE (x : RefD) : EntD := ⟨x.low, ByteArray.empty⟩
def RiseR (ds : List RefD) : Prop := Rise (ds.map refE)
theorem RiseR.le {ds : List RefD} (h : RiseR ds) {k : ByteArray} {i j : Nat} (hj : j < ds.length) (hij : i ≤ j) (hl : ltK ds[j].low k = true) : ltK (ds[i]'(by omega)).low k = true := by
  have := Rise.le (es := ds.map refE) h (k := k) (i := i) (j := j) (by simpa using hj) hij (by simpa [refE] using hl)
  simpa [refE] using this
theorem RiseR.ge {ds : List RefD} (h : RiseR ds) {k : ByteArray} {i j : Nat} (hj : j < ds.length) (hij : i ≤ j) (hi : ltK (ds[i]'(by omega)).low k = false) : ltK ds[j].low k = false := by
  have := Rise.ge (es := ds.map refE) h (k := k) (i := i) (j := j) (by simpa using hj) hij (by simpa [refE] using hi)
  simpa [refE] using this
theorem pos_leR (ds : List RefD) (k : ByteArray) : pos (ds.map refE) k ≤ ds.length := by have := pos_le (ds.map refE) k; simpa using this
theorem pos_uniR (ds : List RefD) (k : ByteArray) (p : Nat) (hp : p ≤ ds.length) (h1 : ∀ i (hi : i < ds.length), i < p → ltK ds[i].low k = true) (h2 : ∀ hi : p < ds.length, ltK (ds[p]'hi).low k = false) : p = pos (ds.map refE) k :=
  pos_uni (ds.map refE) k p (by simpa using hp) (fun i hi hlt => by have := h1 i (by simpa using hi) hlt; simpa [refE] using this) (fun hi => by have := h2 (by simpa using hi); simpa [refE] using this)
theorem lowOf_any (k : ByteArray) (v : Int) (w : World) : Calls Tryz.prog 95 #[.agg #[.string k, .int .i64 v]] w fun e w' => e = .returned (.string k) ∧ Below w.heap.size w w' := by
  go_enter Tryz.func95, Tryz.ntmps95
  go_wp2_with fail
  go_ret
  exact ⟨rfl, (Below.refl _ _).alloc (Nat.le_refl _) _⟩
set_option maxRecDepth 100000 in
set_option maxHeartbeats 4000000 in
theorem searchR_any (a : Option Addr) (n c : Nat) (es : List RefD) (k : ByteArray) (w : World) (hR : JRow w a n es) (hS : RiseR es) (hn : n ≤ 100000) :
    Calls Tryz.prog 94 #[.slice a n c, .string k, .func (.func 95) #[] #[]] w fun e w' => e = .returned (.tuple #[.int .i64 (pos (es.map refE) k : Nat), .bool (found (es.map refE) k)]) ∧ Below w.heap.size w w' := by
  have R := hide hR
  have S := hide hS
  have L := hR.1
  clear hR hS
  have PL := hide (pos_leR es k)
  go_enter Tryz.func94, Tryz.ntmps94
  go_wp2_with fail
  go_loopw [8, 9] (fun x y wr => ∃ (f t : Nat), x = .int .i64 (f : Int) ∧ y = .int .i64 (t : Int) ∧ f ≤ t ∧ t ≤ n ∧ Hid (∀ i (hi : i < es.length), i < f → ltK es[i].low k = true) ∧ Hid (∀ i (hi : i < es.length), t ≤ i → ltK es[i].low k = false) ∧ Below w.heap.size w wr) (fun x y _ => (intOf y).toNat - (intOf x).toNat)
  case atStart => exact ⟨0, n, rfl, rfl, Nat.zero_le _, Nat.le_refl _, fun i _ h => absurd h (Nat.not_lt_zero _), fun i hi h => absurd hi (by omega), Below.refl _ _⟩
  case round =>
    obtain ⟨f, t, rfl, rfl, hft, htn, hlo, hup, hb⟩ := hrel
    by_cases hlt : f < t
    · have R1 := hide ((unhide R).below hb)
      have hdiv : ((t : Int) - (f : Int)) / 2 = (((t - f) / 2 : Nat) : Int) := by omega
      obtain ⟨m, hmm⟩ : ∃ m, m = f + (t - f) / 2 := ⟨_, rfl⟩
      have hmi : (f : Int) + (((t - f) / 2 : Nat) : Int) = (m : Int) := by omega
      have hm' : m < es.length := by omega
      obtain ⟨b, off, rfl, c0, c1⟩ := (unhide R1).2 m hm'
      have hm1 : f ≤ m := by omega
      have hm2 : m < t := by omega
      have hmw : IntKind.i64.wrap (m : Int) = (m : Int) := by rw [IntKind.wrap_i64]; omega
      have HM := hide hmm
      clear hmm hmi hmw
      by_cases hl : Op.bytesLess es[m].low.toList k.toList = true
      · have LO := hide (show ∀ i (hi : i < es.length), i < m + 1 → ltK es[i].low k = true from fun i hi hlt => (unhide S).le hm' (by omega) hl)
        generalize es[m] = em at *
        rw [unhide HM] at c0 c1
        go_wp2_with fail
        refine (lowOf_any em.low em.id _).mono ?_
        rintro e w1 ⟨rfl, hb1⟩
        have B1 := hb.trans (hb1.mono hb.size)
        clear hb hb1
        go_wp2_with fail
        go_roundw
        case rel => exact ⟨m + 1, t, by rw [unhide HM]; go_num, rfl, by omega, htn, unhide LO, unhide hup, B1⟩
        case measure => have := unhide HM; simp [intOf]; omega
      · have hl' : Op.bytesLess es[m].low.toList k.toList = false := by simpa using hl
        have UP := hide (show ∀ i (hi : i < es.length), m ≤ i → ltK es[i].low k = false from fun i hi hle => (unhide S).ge hi hle hl')
        generalize es[m] = em at *
        rw [unhide HM] at c0 c1
        go_wp2_with fail
        refine (lowOf_any em.low em.id _).mono ?_
        rintro e w1 ⟨rfl, hb1⟩
        have B1 := hb.trans (hb1.mono hb.size)
        clear hb hb1
        go_wp2_with fail
        go_roundw
        case rel => exact ⟨f, m, rfl, by rw [unhide HM]; go_num, by omega, by omega, unhide hlo, unhide UP, B1⟩
        case measure => have := unhide HM; simp [intOf]; omega
    · obtain rfl : f = t := by omega
      have HP := hide (pos_uniR es k f (by omega) (unhide hlo) (fun hi => unhide hup f hi (Nat.le_refl _)))
      have FD := hide (show found (es.map refE) k = match (es.map refE)[f]? with
        | some e => e.k.toList == k.toList
        | none => false by rw [unhide HP]; rfl)
      by_cases hi : f < es.length
      · have R1 := hide ((unhide R).below hb)
        obtain ⟨b, off, rfl, c0, c1⟩ := (unhide R1).2 f hi
        have FD2 := hide (show (es[f].low.toList == k.toList) = found (es.map refE) k by rw [unhide FD, List.getElem?_map, List.getElem?_eq_getElem hi]; rfl)
        clear FD
        generalize es[f] = em at *
        have hfn : f < n := by omega
        go_wp2_with fail
        refine (lowOf_any em.low em.id _).mono ?_
        rintro e w1 ⟨rfl, hb1⟩
        have B1 := hb.trans (hb1.mono hb.size)
        clear hb hb1
        go_wp2_with fail
        go_ret2
        exact ⟨tup_ib (by rw [← unhide HP]) (unhide FD2), B1⟩
      · have FD2 := hide (show false = found (es.map refE) k by rw [unhide FD, List.getElem?_map, List.getElem?_eq_none (by omega)]; rfl)
        clear FD
        have hfn : ¬ f < n := by omega
        go_wp2_with fail
        go_ret2
        exact ⟨tup_ib (by rw [← unhide HP]) (unhide FD2), hb⟩
set_option maxHeartbeats 1000000 in
theorem searchRef_any (a : Option Addr) (n c : Nat) (es : List RefD) (k : ByteArray) (w : World) (hR : JRow w a n es) (hS : RiseR es) (hn : n ≤ 100000) :
    Calls Tryz.prog 67 #[.slice a n c, .string k] w fun e w' => e = .returned (.tuple #[.int .i64 (pos (es.map refE) k : Nat), .bool (found (es.map refE) k)]) ∧ Below w.heap.size w w' := by
  have R := hide hR
  have S := hide hS
  clear hR hS
  go_enter Tryz.func67, Tryz.ntmps67
  go_wp2_with fail
  refine (searchR_any a n c es k w (unhide R) (unhide S) hn).mono ?_
  rintro e w1 ⟨rfl, hb1⟩
  go_wp2_with fail
  go_ret2
  exact ⟨rfl, hb1⟩
end Go.Proofs.YtbhkmmdcdfjbkaaGreat

namespace Go.Proofs.YtbhkmmdcdfjbkaaGreat
open Go.RowKit

/-- What a right tree is. -/
structure GoodT (ps : List (Option PageD)) (idx : List RefD) : Prop where
  len : 1 ≤ ps.length ∧ ps.length ≤ 30
  ok : ∀ p, some p ∈ ps → okP p = true
  go : goT ps (manyT ps) 0 ⟨#[]⟩ = true
  ix : okIdx ps idx = true
  zero : ∃ h : 0 < idx.length, idx[0].low = ⟨#[]⟩ ∧ idx[0].id = 0
  il : idx.length ≤ ps.length
theorem GoodT.ref {ps : List (Option PageD)} {idx : List RefD} (h : okIdx ps idx = true) {i : Nat} (hi : i < idx.length) : ∃ p, getP ps idx[i].id = some p ∧ p.lo = idx[i].low := by
  have h1 : okRef ps idx i = true := (List.all_eq_true.1 h) i (List.mem_range.2 hi)
  cases hg : getP ps idx[i].id with
  | none => rw [okRef_none hi hg] at h1; cases h1
  | some p =>
    by_cases e : p.lo = idx[i].low
    · exact ⟨p, rfl, e⟩
    · rw [okRef_other hi hg e] at h1; cases h1
theorem good_of {t : TreD} (h : okT t = true) : GoodT t.here t.idx := by
  unfold okT at h
  simp only [Bool.and_eq_true] at h
  obtain ⟨⟨⟨⟨hs, hp⟩, hi⟩, hz⟩, hg⟩ := h
  obtain ⟨h1, h2, h3, h4, h5⟩ := of_decide_eq_true hs
  have hl : t.here.length = t.ps.length := by unfold TreD.here; rw [List.length_zipWith]; omega
  have h0 : 0 < t.idx.length := by omega
  have hok : ∀ p, some p ∈ t.here → okP p = true := fun p hm => by
    obtain ⟨i, hi, e⟩ := List.mem_iff_getElem.1 hm
    unfold TreD.here at e hi
    rw [List.getElem_zipWith] at e
    unfold okPg at hp
    rw [List.all_eq_true] at hp
    have hw : i < (List.zipWith (fun p g => if g then noP p else okP p) t.ps t.gone).length := by rw [List.length_zipWith] at hi ⊢; exact hi
    have := hp _ (List.getElem_mem hw)
    rw [List.getElem_zipWith] at this
    split at e
    · cases e
    · rename_i hgn
      rw [if_neg hgn] at this
      injection e with e
      rw [← e]
      exact this
  have hgo : goT t.here (manyT t.here) 0 ⟨#[]⟩ = true := hg
  refine ⟨⟨by omega, by omega⟩, hok, hgo, hi, ⟨h0, ?_⟩, by omega⟩
  have hid : t.idx[0].id = 0 := by
    rw [List.getElem?_eq_getElem h0] at hz
    exact of_decide_eq_true hz
  refine ⟨?_, hid⟩
  obtain ⟨p, hgp, hlo⟩ := GoodT.ref hi h0
  rw [hid] at hgp
  have hm := manyT_pos hgp
  obtain ⟨m, hm2⟩ : ∃ m, manyT t.here = m + 1 := ⟨manyT t.here - 1, by omega⟩
  rw [hm2] at hgo
  rw [← hlo]
  by_cases e : p.lo = ⟨#[]⟩
  · exact e
  · rw [goT_other hgp e] at hgo; cases hgo
theorem GoodT.rise {ps : List (Option PageD)} {idx : List RefD} (h : okIdx ps idx = true) : RiseR idx := by
  unfold RiseR Rise
  rw [List.pairwise_iff_getElem]
  have key : ∀ (j : Nat) (hj : j < idx.length) (i : Nat) (hij : i < j), ltK (idx[i]'(by omega)).low idx[j].low = true := fun j => by
    induction j with
    | zero => intro _ i hij; omega
    | succ j ih =>
      intro hj i hij
      have h1 : okRef ps idx (j + 1) = true := (List.all_eq_true.1 h) (j + 1) (List.mem_range.2 hj)
      have h2 : ltK (idx[j]'(by omega)).low idx[j + 1].low = true := by
        cases e : ltK (idx[j]'(by omega)).low idx[j + 1].low with
        | true => rfl
        | false => rw [okRef_turn hj (by omega) (by simpa using e)] at h1; cases h1
      by_cases e : i = j
      · subst e; exact h2
      · exact ltK_trans (ih (by omega) i (by omega)) h2
  intro i j hi hj hij
  simp only [List.getElem_map, refE]
  exact key j (by simpa using hj) i hij
/-- The place of the last Ref that is not above a text. -/
def plR (idx : List RefD) (k : ByteArray) : Nat := if found (idx.map refE) k then pos (idx.map refE) k else pos (idx.map refE) k - 1
theorem pl_facts {idx : List RefD} {k : ByteArray} (hr : RiseR idx) (hz : ∃ h : 0 < idx.length, idx[0].low = ⟨#[]⟩ ∧ idx[0].id = 0) : ∃ h : plR idx k < idx.length, ltK k (idx[plR idx k]).low = false ∧ (∀ i (hi : i < idx.length), plR idx k < i → ltK k idx[i].low = true) ∧ (found (idx.map refE) k = false → 0 < pos (idx.map refE) k) := by
  obtain ⟨h0, hl0, _⟩ := hz
  have hpl := pos_leR idx k
  cases hf : found (idx.map refE) k with
  | true =>
    obtain ⟨hi, he⟩ := found_in hf
    have hi' : pos (idx.map refE) k < idx.length := by simpa using hi
    have he' : idx[pos (idx.map refE) k].low = k := by simpa [refE] using he
    have e : plR idx k = pos (idx.map refE) k := by unfold plR; rw [hf]; rfl
    have key : ∀ (P : Nat) (hP : P < idx.length), idx[P].low = k → ltK k idx[P].low = false ∧ ∀ i (hi : i < idx.length), P < i → ltK k idx[i].low = true := fun P hP e2 => by
      refine ⟨by rw [e2]; exact ltK_irr k, fun i hi hlt => ?_⟩
      have := Rise.lt (es := idx.map refE) hr (i := P) (j := i) (by simpa using hi) hlt
      simp only [List.getElem_map, refE] at this
      rw [e2] at this
      exact this
    rw [e]
    exact ⟨hi', (key _ hi' he').1, (key _ hi' he').2, fun h => by cases h⟩
  | false =>
    have hpos : 0 < pos (idx.map refE) k := by
      rcases Nat.eq_zero_or_pos (pos (idx.map refE) k) with hz | hz
      · have hi : pos (idx.map refE) k < (idx.map refE).length := by rw [hz]; simpa using h0
        have := found_not hf hi
        simp only [hz, List.getElem_map, refE] at this
        rw [hl0, ltK_none] at this
        cases this
      · exact hz
    have e : plR idx k = pos (idx.map refE) k - 1 := by unfold plR; rw [hf]; rfl
    rw [e]
    have hlt := pos_lt (idx.map refE) k (pos (idx.map refE) k - 1) (by simp; omega) (by omega)
    simp only [List.getElem_map, refE] at hlt
    refine ⟨by omega, ltK_asymm hlt, fun i hi hgt => ?_, fun _ => hpos⟩
    have hp : pos (idx.map refE) k < (idx.map refE).length := by simp; omega
    have h1 := found_not hf hp
    simp only [List.getElem_map, refE] at h1
    by_cases e2 : i = pos (idx.map refE) k
    · subst e2; exact h1
    · have := Rise.lt (es := idx.map refE) hr (i := pos (idx.map refE) k) (j := i) (by simpa using hi) (by omega)
      simp only [List.getElem_map, refE] at this
      exact ltK_trans h1 this
theorem pl_uni {idx : List RefD} {k : ByteArray} (hr : RiseR idx) (hz : ∃ h : 0 < idx.length, idx[0].low = ⟨#[]⟩ ∧ idx[0].id = 0) {p : Nat} (hp : p < idx.length) (h1 : ltK k idx[p].low = false) (h2 : ∀ i (hi : i < idx.length), p < i → ltK k idx[i].low = true) : p = plR idx k := by
  obtain ⟨hq, g1, g2, _⟩ := pl_facts (k := k) hr hz
  rcases Nat.lt_trichotomy p (plR idx k) with h | h | h
  · rw [h2 _ hq h] at g1; cases g1
  · exact h
  · rw [g2 _ hp h] at h1; cases h1
/-- From a page on to the right, up to the page that a text stands in. -/
def downF (ps : List (Option PageD)) (key : ByteArray) : Nat → Int → Nat → Int × Nat
  | 0, id, h => (id, h)
  | m + 1, id, h => match getP ps id with
    | none => (id, h)
    | some p => if underK key (hiP p) then (id, h) else downF ps key m (riP p) (h + 1)
/-- The page of a text, and how often one goes to the right. -/
def downT (ps : List (Option PageD)) (idx : List RefD) (key : ByteArray) : Int × Nat := match idx[plR idx key]? with
  | some x => downF ps key 40 x.id 0
  | none => (0, 0)
/-- Where a walk to the right stands. -/
structure DnSt (ps : List (Option PageD)) (key : ByteArray) (D : Int × Nat) (id : Int) (h : Nat) : Prop where
  here : ∃ p, getP ps id = some p ∧ ltK key p.lo = false ∧ h + cntGe ps p.lo ≤ manyT ps
  eq : D = downF ps key (40 - h) id h
theorem DnSt.few {ps : List (Option PageD)} {key : ByteArray} {D : Int × Nat} {id : Int} {h : Nat} (s : DnSt ps key D id h) (hl : ps.length ≤ 30) : h < 30 := by
  obtain ⟨p, hg, _, hc⟩ := s.here
  have := cntGe_here (getP_mem hg)
  have := manyT_le ps
  omega
theorem DnSt.start {ps : List (Option PageD)} {idx : List RefD} {key : ByteArray} (g : GoodT ps idx) (hp : plR idx key < idx.length) : DnSt ps key (downT ps idx key) idx[plR idx key].id 0 := by
  obtain ⟨p, hg, hl⟩ := GoodT.ref g.ix hp
  obtain ⟨_, h1, _⟩ := pl_facts (k := key) (GoodT.rise g.ix) g.zero
  refine ⟨⟨p, hg, by rw [hl]; exact h1, by have := cntGe_many ps p.lo; omega⟩, ?_⟩
  unfold downT
  rw [List.getElem?_eq_getElem hp]
theorem DnSt.stop {ps : List (Option PageD)} {key : ByteArray} {D : Int × Nat} {id : Int} {h : Nat} (s : DnSt ps key D id h) (hl : ps.length ≤ 30) {p : PageD} (hg : getP ps id = some p) (hu : underK key (hiP p) = true) : D = (id, h) := by
  have := s.few hl
  rw [s.eq]
  obtain ⟨m, hm⟩ : ∃ m, 40 - h = m + 1 := ⟨40 - h - 1, by omega⟩
  rw [hm, downF, hg]
  simp only
  rw [if_pos hu]
theorem under_no {key hi : ByteArray} (h : underK key hi = false) : hi.toList.isEmpty = false ∧ ltK key hi = false := by
  unfold underK at h
  rwa [Bool.or_eq_false_iff] at h
theorem DnSt.next {ps : List (Option PageD)} {idx : List RefD} {key : ByteArray} {D : Int × Nat} {id : Int} {h : Nat} (s : DnSt ps key D id h) (g : GoodT ps idx) {p : PageD} (hg : getP ps id = some p) (hu : underK key (hiP p) = false) : DnSt ps key D (riP p) (h + 1) := by
  have hf := s.few g.len.2
  obtain ⟨h1, h2⟩ := under_no hu
  obtain ⟨p', hg', hl, hc⟩ := s.here
  rw [hg] at hg'
  injection hg' with hg'
  subst hg'
  rcases next_of g.ok g.go hg with ⟨_, he⟩ | ⟨hlt, p2, hg2, e2⟩
  · rw [h1] at he; cases he
  · refine ⟨⟨p2, hg2, by rw [e2]; exact h2, ?_⟩, ?_⟩
    · have := cntGe_next (getP_mem hg) hlt
      rw [e2]
      omega
    · rw [s.eq]
      obtain ⟨m, hm⟩ : ∃ m, 40 - h = m + 1 := ⟨40 - h - 1, by omega⟩
      rw [hm, show 40 - (h + 1) = m by omega, downF, hg]
      simp only
      rw [if_neg (by rw [hu]; decide)]
/-- Of a right tree the way down ends in a page that holds the text. -/
def DownTo (ps : List (Option PageD)) (idx : List RefD) (key : ByteArray) (p : PageD) : Prop := getP ps (downT ps idx key).1 = some p ∧ ltK key p.lo = false ∧ underK key (hiP p) = true ∧ (downT ps idx key).2 < 30
theorem DnSt.goal {ps : List (Option PageD)} {idx : List RefD} {key : ByteArray} {id : Int} {h : Nat} (s : DnSt ps key (downT ps idx key) id h) (hl : ps.length ≤ 30) {p : PageD} (hg : getP ps id = some p) (hu : underK key (hiP p) = true) : DownTo ps idx key p := by
  have e := s.stop hl hg hu
  have hf := s.few hl
  obtain ⟨p', hg', hlo, _⟩ := s.here
  rw [hg] at hg'
  injection hg' with hg'
  subst hg'
  unfold DownTo
  rw [e]
  exact ⟨hg, hlo, hu, hf⟩
theorem DnSt.reach {ps : List (Option PageD)} {idx : List RefD} {key : ByteArray} (g : GoodT ps idx) : ∀ (n : Nat) (id : Int) (h : Nat), n + h = 40 → DnSt ps key (downT ps idx key) id h → ∃ p, DownTo ps idx key p
  | 0, _, h, e, s => by have := s.few g.len.2; omega
  | n + 1, id, h, e, s => by
    obtain ⟨p, hg, _, _⟩ := s.here
    cases hu : underK key (hiP p) with
    | true => exact ⟨p, s.goal g.len.2 hg hu⟩
    | false => exact DnSt.reach g n _ (h + 1) (by omega) (s.next g hg hu)
theorem GoodT.down {ps : List (Option PageD)} {idx : List RefD} (g : GoodT ps idx) (key : ByteArray) : ∃ p, DownTo ps idx key p := by
  obtain ⟨hp, _⟩ := pl_facts (k := key) (GoodT.rise g.ix) g.zero
  exact DnSt.reach g 40 _ 0 rfl (DnSt.start g hp)
/-- In the way of the program: it goes on where there is a page to the right and the text is not below its bound. -/
theorem under_way {p : PageD} {key : ByteArray} (h : okP p = true) : (!decide (riP p = -1) && !ltK key (hiP p)) = !underK key (hiP p) := by
  obtain ⟨b1, b2⟩ := okP_bd h
  unfold underK
  cases he : (hiP p).toList.isEmpty with
  | true => rw [b1 he]; rfl
  | false => have := (b2 he).2.1; rw [decide_eq_false (by omega)]; simp
end Go.Proofs.YtbhkmmdcdfjbkaaGreat

namespace Go.Proofs.YtbhkmmdcdfjbkaaGreat
open Go.RowKit

/-- The value of a key. -/
def lookE (es : List EntD) (k : ByteArray) : Option ByteArray := (es.find? (fun e => e.k.toList == k.toList)).map (·.v)
def lookV : Option ByteArray → Value
  | some v => .tuple #[.string v, .int .i64 0, .int .i64 0]
  | none => .tuple #[.string ByteArray.empty, .int .i64 0, .int .i64 5]
/-- What Find answers of a right page. -/
def findV (lo hi : ByteArray) (r : Int) (es : List EntD) (ds : List DelD) (k : ByteArray) : Value :=
  if ltK k lo = true then .tuple #[.string ByteArray.empty, .int .i64 0, .int .i64 4]
  else if underK k (highE hi ds) = false then .tuple #[.string ByteArray.empty, .int .i64 (rightE r ds), .int .i64 12]
  else lookV (lookE (entsE es ds) k)
theorem look_none {es : List EntD} {k : ByteArray} (h : ∀ i (hi : i < es.length), (es[i].k.toList == k.toList) = false) : lookE es k = none := by
  unfold lookE
  rw [List.find?_eq_none.2]
  · rfl
  · intro e he
    obtain ⟨i, hi, rfl⟩ := List.mem_iff_getElem.1 he
    rw [h i hi]; decide
theorem look_some {es : List EntD} {k : ByteArray} {i : Nat} (hi : i < es.length) (h0 : ∀ j (hj : j < es.length), j < i → (es[j].k.toList == k.toList) = false) (h : (es[i].k.toList == k.toList) = true) : lookE es k = some es[i].v := by
  unfold lookE
  have : es.find? (fun e => e.k.toList == k.toList) = some es[i] := by
    rw [List.find?_eq_some_iff_getElem]
    exact ⟨h, i, hi, rfl, fun j hj => by rw [h0 j (by omega) hj]; rfl⟩
  rw [this]
  rfl
theorem ok_len {lo hi : ByteArray} {r : Int} {es : List EntD} {ds : List DelD} (h : okPage lo hi r es ds = true) : es.length ≤ 32 ∧ ds.length ≤ 12 ∧ (entsE es ds).length ≤ 32 := by
  unfold okPage at h
  simp at h
  omega
/-- What Find answers. -/
def findA (lo hi : ByteArray) (r : Int) (es : List EntD) (ds : List DelD) (k : ByteArray) : Value :=
  if 65536 < k.size then .tuple #[.string ByteArray.empty, .int .i64 0, .int .i64 2]
  else if okPage lo hi r es ds = true ∧ keyK k = true then findV lo hi r es ds k
  else .tuple #[.string ByteArray.empty, .int .i64 0, .int .i64 1]
end Go.Proofs.YtbhkmmdcdfjbkaaGreat

namespace Go.Proofs.YtbhkmmdcdfjbkaaGreat
open Go.RowKit

theorem look_rise {es : List EntD} {k : ByteArray} (h : Rise es) : (found es k = true → ∀ hp : pos es k < es.length, lookE es k = some (es[pos es k]'hp).v) ∧ (found es k = false → lookE es k = none) := by
  have below : ∀ j (hj : j < es.length), j < pos es k → (es[j].k.toList == k.toList) = false := fun j hj hjp => by
    have hlt := pos_lt es k j hj hjp
    cases hq : (es[j].k.toList == k.toList)
    · rfl
    · have e : es[j].k = k := toList_inj (by simpa using hq)
      rw [e, ltK_irr] at hlt
      cases hlt
  refine ⟨fun hf hp => ?_, fun hf => ?_⟩
  · obtain ⟨hp', hk⟩ := found_in hf
    exact look_some hp below (by rw [hk]; simp)
  · refine look_none fun i hi => ?_
    rcases Nat.lt_or_ge i (pos es k) with h' | h'
    · exact below i hi h'
    · have hp : pos es k < es.length := by omega
      have h0 := found_not hf hp
      have : ltK k es[i].k = true := by
        rcases Nat.eq_or_lt_of_le h' with e | e
        · subst e; exact h0
        · exact ltK_trans h0 (h.lt hi e)
      cases hq : (es[i].k.toList == k.toList)
      · rfl
      · have e : es[i].k = k := toList_inj (by simpa using hq)
        rw [e, ltK_irr] at this
        cases this
set_option maxRecDepth 100000 in
set_option maxHeartbeats 8000000 in
theorem implFind_any (lo hi : ByteArray) (r : Int) (ab : Option Addr) (nb cb : Nat) (es : List EntD) (ac : Option Addr) (nc cc : Nat) (ds : List DelD) (k : ByteArray) (w : World) (hE : ERow w ab nb es) (hD : DRow w ac nc ds) :
    Calls Tryz.prog 35 #[pgv lo hi r ab nb cb ac nc cc, .string k] w fun e w' => e = .returned (findA lo hi r es ds k) ∧ Below w.heap.size w w' := by
  have b0 : Below w.heap.size w (w.alloc (.cells #[.string lo, .string hi, .int .i64 r, .slice ab nb cb, .slice ac nc cc] 67)) := (Below.refl _ _).alloc (Nat.le_refl _) _
  have RE := hide (hE.below b0)
  have RD := hide (hD.below b0)
  clear hE hD
  by_cases hk : 65536 < k.size
  · have E := hide (show Value.tuple #[.string ByteArray.empty, .int .i64 0, .int .i64 2] = findA lo hi r es ds k by unfold findA; rw [if_pos hk])
    go_enter Tryz.func35, Tryz.ntmps35
    go_wp2_with fail
    go_ret3
    exact ⟨congrArg Ending.returned (unhide E), b0⟩
  have FA := hide (show findA lo hi r es ds k = if okPage lo hi r es ds = true ∧ keyK k = true then findV lo hi r es ds k else .tuple #[.string ByteArray.empty, .int .i64 0, .int .i64 1] by unfold findA; rw [if_neg hk])
  go_enter Tryz.func35, Tryz.ntmps35
  go_wp2_with fail
  refine (settle_any lo hi r ab nb cb es ac nc cc ds _ (unhide RE) (unhide RD)).mono ?_
  rintro e w1 ⟨v, b, rfl, ⟨hb, hs⟩, hb1⟩
  have B1 := hide (b0.trans (hb1.mono b0.size))
  clear b0 hb1 RE RD
  cases b with
  | false =>
    have E := hide (show Value.tuple #[.string ByteArray.empty, .int .i64 0, .int .i64 1] = findA lo hi r es ds k by rw [unhide FA, ← hb, if_neg (fun h => by cases h.1)])
    clear hb hs
    go_wp2_with fail
    go_ret3
    exact ⟨congrArg Ending.returned (unhide E), unhide B1⟩
  | true =>
    obtain ⟨sb, a', n', c', rfl, hsb, hS⟩ := hs rfl
    have HS := hide hS
    have OK := hide hb.symm
    clear hs hb hS
    by_cases hy : keyK k = true
    · have FV := hide (show findA lo hi r es ds k = findV lo hi r es ds k by rw [unhide FA, if_pos ⟨unhide OK, hy⟩])
      have c0 := (unhide HS).at_.c0
      have c2 := (unhide HS).at_.c2
      have c3 := (unhide HS).at_.c3
      have hn' : n' ≤ 100 := by have h1 := (unhide HS).len; have h2 := ok_len (unhide OK); omega
      by_cases hl : Op.bytesLess k.toList lo.toList = true
      · have E := hide (show Value.tuple #[.string ByteArray.empty, .int .i64 0, .int .i64 4] = findA lo hi r es ds k by rw [unhide FV]; unfold findV ltK; rw [if_pos hl])
        go_wp2_with (go_at_call 33; refine (keyOK_any k _).mono ?_; rintro e w2 ⟨rfl, hw2⟩; subst w2)
        go_ret3
        exact ⟨congrArg Ending.returned (unhide E), unhide B1⟩
      · have hl' : Op.bytesLess k.toList lo.toList = false := by simpa using hl
        have hl2 : ¬ ltK k lo = true := hl
        by_cases hu : underK k (highE hi ds) = true
        · have hu2 : ¬ underK k (highE hi ds) = false := by rw [hu]; decide
          have hin : inK lo (highE hi ds) k = true := by unfold inK ltK; unfold underK ltK at hu; rw [hl', hu]; rfl
          have F := hide (show findA lo hi r es ds k = lookV (lookE (entsE es ds) k) by rw [unhide FV]; unfold findV; rw [if_neg hl2, if_neg hu2])
          have HC := hide (covers_any sb lo (highE hi ds) (rightE r ds) (.slice a' n' c') k w1 (unhide HS).at_)
          go_wp2_with (first | (go_at_call 33; refine (keyOK_any k _).mono ?_; rintro e w2 ⟨rfl, hw2⟩; subst w2) | (go_at_call 70; refine (unhide HC).mono ?_; rintro e w2 ⟨rfl, qc, hw2⟩; subst w2; rw [hin]))
          replace HS := hide (show Sett (w1.drewN qc) sb lo (highE hi ds) (rightE r ds) a' n' c' (entsE es ds) from ⟨(unhide HS).at_, (unhide HS).own, (unhide HS).rise⟩)
          replace B1 := hide (bel_drewN (unhide B1) qc)
          refine (searchEntry_any a' n' c' (entsE es ds) k (w1.drewN qc) (erow_of_owns (unhide HS).own) (unhide HS).rise (by omega)).mono ?_
          rintro e w3 ⟨rfl, hb3⟩
          have S3 := hide ((unhide HS).step hb3)
          have B3 := hide ((unhide B1).trans (hb3.mono (unhide B1).size))
          have d3 := (unhide S3).at_.c3
          clear hb3 HS c0 c2 c3 HC
          by_cases hf : found (entsE es ds) k = true
          · obtain ⟨hp, _⟩ := found_in hf
            have E := hide (show Value.tuple #[.string (entsE es ds)[pos (entsE es ds) k].v, .int .i64 0, .int .i64 0] = findA lo hi r es ds k by rw [unhide F, (look_rise (unhide S3).rise).1 hf hp]; rfl)
            obtain ⟨b', off', he, x0, x1⟩ := (erow_of_owns (unhide S3).own).2 _ hp
            subst he
            have hpn : pos (entsE es ds) k < n' := by rw [(unhide S3).len]; exact hp
            rw [hf]
            generalize (entsE es ds)[pos (entsE es ds) k] = xt at *
            generalize pos (entsE es ds) k = tp at *
            clear hf
            go_wp2_with fail
            first | (go_quiet (fail); go_wp2_with fail) | skip
            go_ret3
            exact ⟨congrArg Ending.returned (unhide E), by first | exact unhide B3 | exact bel_drewN (unhide B3) _⟩
          · have hf : found (entsE es ds) k = false := by simpa using hf
            have E := hide (show Value.tuple #[.string ByteArray.empty, .int .i64 0, .int .i64 5] = findA lo hi r es ds k by rw [unhide F, (look_rise (unhide S3).rise).2 hf]; rfl)
            rw [hf]
            go_wp2_with fail
            go_ret3
            exact ⟨congrArg Ending.returned (unhide E), unhide B3⟩
        · have hu' : underK k (highE hi ds) = false := by simpa using hu
          have hin : inK lo (highE hi ds) k = false := by unfold inK ltK; unfold underK ltK at hu'; rw [hl', hu']; rfl
          have E := hide (show Value.tuple #[.string ByteArray.empty, .int .i64 (rightE r ds), .int .i64 12] = findA lo hi r es ds k by rw [unhide FV]; unfold findV; rw [if_neg hl2, if_pos hu'])
          have HC := hide (covers_any sb lo (highE hi ds) (rightE r ds) (.slice a' n' c') k w1 (unhide HS).at_)
          go_wp2_with (first | (go_at_call 33; refine (keyOK_any k _).mono ?_; rintro e w2 ⟨rfl, hw2⟩; subst w2) | (go_at_call 70; refine (unhide HC).mono ?_; rintro e w2 ⟨rfl, qc, hw2⟩; subst w2; rw [hin]))
          first | (go_quiet (fail); go_wp2_with fail) | skip
          go_ret3
          exact ⟨congrArg Ending.returned (unhide E), by first | exact bel_drewN (unhide B1) _ | exact bel_drewN (bel_drewN (unhide B1) _) _⟩
    · have E := hide (show Value.tuple #[.string ByteArray.empty, .int .i64 0, .int .i64 1] = findA lo hi r es ds k by rw [unhide FA, if_neg (fun h => hy h.2)])
      have hy : keyK k = false := by simpa using hy
      go_wp2_with (go_at_call 33; refine (keyOK_any k _).mono ?_; rintro e w2 ⟨rfl, hw2⟩; subst w2)
      go_ret3
      exact ⟨congrArg Ending.returned (unhide E), unhide B1⟩
end Go.Proofs.YtbhkmmdcdfjbkaaGreat

namespace Go.Proofs.YtbhkmmdcdfjbkaaGreat
open Go.RowKit

theorem nek {k : ByteArray} {e : EntD} (h : e.k ≠ k) : (e.k.toList == k.toList) = false := by
  cases hq : (e.k.toList == k.toList) with
  | false => rfl
  | true => exact absurd (toList_inj (by simpa using hq)) h
theorem find_no {A : List EntD} {k : ByteArray} (h : ∀ e ∈ A, e.k ≠ k) : A.find? (fun e => e.k.toList == k.toList) = none :=
  List.find?_eq_none.2 (fun e he => by rw [nek (h e he)]; decide)
theorem look_app {A B : List EntD} {k : ByteArray} (h : ∀ e ∈ A, e.k ≠ k) : lookE (A ++ B) k = lookE B k := by
  unfold lookE
  rw [List.find?_append, find_no h]
  rfl
theorem look_app_r {A B : List EntD} {k : ByteArray} (h : ∀ e ∈ B, e.k ≠ k) : lookE (A ++ B) k = lookE A k := by
  unfold lookE
  rw [List.find?_append, find_no h]
  simp
theorem look_here {B : List EntD} {k v : ByteArray} : lookE (⟨k, v⟩ :: B) k = some v := by
  unfold lookE
  rw [List.find?_cons_of_pos (by simp)]
  rfl
theorem look_skip {B : List EntD} {e : EntD} {k : ByteArray} (h : e.k ≠ k) : lookE (e :: B) k = lookE B k := by
  unfold lookE
  rw [List.find?_cons_of_neg (by rw [nek h]; decide)]
theorem look_no {A : List EntD} {k : ByteArray} (h : ∀ e ∈ A, e.k ≠ k) : lookE A k = none := by
  have := look_app (B := []) h
  rw [List.append_nil] at this
  exact this
theorem look_mid {A B : List EntD} {e : EntD} {k : ByteArray} (h : e.k ≠ k) : lookE (A ++ e :: B) k = lookE (A ++ B) k := by
  unfold lookE
  rw [List.find?_append, List.find?_append, List.find?_cons_of_neg (by rw [nek h]; decide)]
theorem ltK_ne {a b : ByteArray} (h : ltK a b = true) : a ≠ b := fun e => by rw [e, ltK_irr] at h; cases h
theorem take_lt {es : List EntD} {k : ByteArray} : ∀ e ∈ es.take (pos es k), ltK e.k k = true := by
  intro e he
  obtain ⟨i, hi, rfl⟩ := List.mem_iff_getElem.1 he
  rw [List.getElem_take]
  rw [List.length_take] at hi
  exact pos_lt es k i (by omega) (by omega)
theorem drop_ge {es : List EntD} (h : Rise es) {k : ByteArray} : ∀ e ∈ es.drop (pos es k), ltK e.k k = false := by
  intro e he
  obtain ⟨i, hi, rfl⟩ := List.mem_iff_getElem.1 he
  rw [List.getElem_drop]
  rw [List.length_drop] at hi
  exact h.ge (i := pos es k) (by omega) (by omega) (pos_at es k (by omega))
theorem drop_gt {es : List EntD} (h : Rise es) {k : ByteArray} (hf : found es k = true) : ∀ e ∈ es.drop (pos es k + 1), ltK k e.k = true := by
  intro e he
  obtain ⟨hp, hk⟩ := found_in hf
  obtain ⟨i, hi, rfl⟩ := List.mem_iff_getElem.1 he
  rw [List.getElem_drop]
  rw [List.length_drop] at hi
  have := h.lt (i := pos es k) (j := pos es k + 1 + i) (by omega) (by omega)
  rw [hk] at this
  exact this
/-- The value of the change's own key. -/
theorem look_step {es : List EntD} (h : Rise es) (d : DelD) : (d.kind = 1 → lookE (stepE es d) d.k = some d.v) ∧ (d.kind = 2 → lookE (stepE es d) d.k = none) := by
  have ht : ∀ e ∈ es.take (pos es d.k), e.k ≠ d.k := fun e he => ltK_ne (take_lt e he)
  constructor
  · intro hk
    cases hf : found es d.k with
    | false =>
      rw [stepE_put_new hk hf, look_app ht, look_here]
    | true =>
      obtain ⟨hp, _⟩ := found_in hf
      rw [stepE_put_old hk hf, List.set_eq_take_append_cons_drop, if_pos hp, look_app ht, look_here]
  · intro hk
    cases hf : found es d.k with
    | false => rw [stepE_drop_new hk hf]; exact (look_rise h).2 hf
    | true =>
      rw [stepE_drop_old hk hf, look_app ht]
      exact look_no fun e he => (ltK_ne (drop_gt h hf e he)).symm
/-- The value of another key. -/
theorem look_other {es : List EntD} (hR : Rise es) (d : DelD) (hk : d.kind = 1 ∨ d.kind = 2 ∨ d.kind = 3) {o : ByteArray} (ho : o ≠ d.k) (h3 : d.kind = 3 → ltK o d.k = true) : lookE (stepE es d) o = lookE es o := by
  have e0 : es = es.take (pos es d.k) ++ es.drop (pos es d.k) := (List.take_append_drop _ _).symm
  rcases hk with hk | hk | hk
  · cases hf : found es d.k with
    | false =>
      rw [stepE_put_new hk hf, look_mid (e := ⟨d.k, d.v⟩) (fun h => ho h.symm), ← e0]
    | true =>
      obtain ⟨hp, hx⟩ := found_in hf
      rw [stepE_put_old hk hf, List.set_eq_take_append_cons_drop, if_pos hp, look_mid (e := ⟨d.k, d.v⟩) (fun h => ho h.symm)]
      have e1 : es = es.take (pos es d.k) ++ es[pos es d.k] :: es.drop (pos es d.k + 1) := by
        rw [← List.drop_eq_getElem_cons hp]; exact e0
      have := look_mid (A := es.take (pos es d.k)) (B := es.drop (pos es d.k + 1)) (e := es[pos es d.k]) (k := o) (by rw [hx]; exact fun h => ho h.symm)
      rw [← e1] at this
      exact this.symm
  · cases hf : found es d.k with
    | false => rw [stepE_drop_new hk hf]
    | true =>
      obtain ⟨hp, hx⟩ := found_in hf
      rw [stepE_drop_old hk hf]
      have e1 : es = es.take (pos es d.k) ++ es[pos es d.k] :: es.drop (pos es d.k + 1) := by
        rw [← List.drop_eq_getElem_cons hp]; exact e0
      have := look_mid (A := es.take (pos es d.k)) (B := es.drop (pos es d.k + 1)) (e := es[pos es d.k]) (k := o) (by rw [hx]; exact fun h => ho h.symm)
      rw [← e1] at this
      exact this.symm
  · rw [stepE_split hk]
    have := look_app_r (A := es.take (pos es d.k)) (B := es.drop (pos es d.k)) (k := o) (fun e he h => by
      have g := drop_ge hR e he
      rw [h, h3 hk] at g
      cases g)
    rw [← e0] at this
    exact this.symm
end Go.Proofs.YtbhkmmdcdfjbkaaGreat

namespace Go.Proofs.YtbhkmmdcdfjbkaaGreat
open Go.RowKit

theorem ok_parts {lo hi : ByteArray} {r : Int} {es : List EntD} {ds : List DelD} (h : okPage lo hi r es ds = true) : okBounds lo hi r = true ∧ es.length ≤ 32 ∧ ds.length ≤ 12 ∧ okBase lo hi es = true ∧ okChain lo hi ds = true ∧ (entsE es ds).length ≤ 32 := by
  unfold okPage at h
  simp only [Bool.and_eq_true, decide_eq_true_eq] at h
  exact ⟨h.1.1.1.1.1, h.1.1.1.1.2, h.1.1.1.2, h.1.1.2, h.1.2, h.2⟩
theorem ok_rise {lo hi : ByteArray} {r : Int} {es : List EntD} {ds : List DelD} (h : okPage lo hi r es ds = true) : Rise (entsE es ds) := by
  refine entsE_rise (rise_of_ok (lo := lo) (hi := hi) fun i hi' => ?_) ds
  have := (ok_parts h).2.2.2.1
  unfold okBase at this
  rw [List.all_eq_true] at this
  exact this i (by simpa using hi')
def BaseOK (lo hi : ByteArray) (es : List EntD) : Prop := Rise es ∧ ∀ e ∈ es, okEnt lo hi e = true
theorem okBase_of {lo hi : ByteArray} {es : List EntD} (h : BaseOK lo hi es) : okBase lo hi es = true := by
  refine okBase_true fun i hi' => ?_
  cases i with
  | zero => rw [okAtE_first hi']; exact h.2 _ (List.getElem_mem _)
  | succ i => rw [okAtE_next hi', h.2 _ (List.getElem_mem _), h.1.lt hi' (Nat.lt_succ_self i)]; rfl
theorem isE_key {k : ByteArray} (h : keyK k = true) : k.toList.isEmpty = false := by
  unfold keyK at h
  simp only [decide_eq_true_eq] at h
  cases hl : k.toList with
  | nil =>
    have e0 : k = ByteArray.empty := toList_inj (by rw [hl]; first | (simp; done) | decide +kernel)
    rw [e0] at h
    exact absurd h.1 (by decide)
  | cons x xs => rfl
theorem stepE_mem {es : List EntD} {d : DelD} {x : EntD} (h : x ∈ stepE es d) (h3 : d.kind ≠ 3) : x ∈ es ∨ (d.kind ≠ 2 ∧ x = ⟨d.k, d.v⟩) := by
  unfold stepE at h
  rw [if_neg h3] at h
  rcases List.mem_append.1 h with h | h
  · rcases List.mem_append.1 h with h | h
    · exact .inl (List.mem_of_mem_take h)
    · by_cases h2 : d.kind = 2
      · rw [if_pos h2] at h
        cases h
      · rw [if_neg h2] at h
        exact .inr ⟨h2, by simpa using h⟩
  · exact .inl (List.mem_of_mem_drop h)
theorem con_step {lo H : ByteArray} {R : Int} {es : List EntD} {d : DelD} (h1 : okBounds lo H R = true) (h2 : BaseOK lo H es) (h3 : okDel lo H d = true) :
    okBounds lo (if d.kind = 3 then d.k else H) (if d.kind = 3 then d.to else R) = true ∧ BaseOK lo (if d.kind = 3 then d.k else H) (stepE es d) := by
  unfold okDel at h3
  simp only [Bool.and_eq_true, Bool.or_eq_true, decide_eq_true_eq] at h3
  obtain ⟨⟨k1, k2⟩, k3⟩ := h3
  by_cases hk : d.kind = 3
  · rw [if_pos hk, if_pos hk]
    have k4 : ltK lo d.k = true ∧ idK d.to = true := by
      rcases k3 with (k3 | k3) | k3
      · omega
      · omega
      · exact ⟨k3.1.2, k3.2⟩
    refine ⟨?_, stepE_rise h2.1 d, fun x hx => ?_⟩
    · unfold okBounds at h1 ⊢
      simp only [Bool.and_eq_true, decide_eq_true_eq] at h1 ⊢
      have hs : d.k.size ≤ 40 := by unfold keyK at k1; simp at k1; omega
      refine ⟨⟨h1.1.1, hs⟩, ?_⟩
      rw [if_neg (show ¬ d.k.toList.isEmpty = true by rw [isE_key k1]; decide), k4.1, k4.2]
      rfl
    · unfold stepE at hx
      rw [if_pos hk] at hx
      have a := h2.2 x (List.mem_of_mem_take hx)
      have b := take_lt x hx
      unfold okEnt inK at a ⊢
      simp only [Bool.and_eq_true] at a ⊢
      exact ⟨a.1, a.2.1, by rw [b]; simp⟩
  · rw [if_neg hk, if_neg hk]
    refine ⟨h1, stepE_rise h2.1 d, fun x hx => ?_⟩
    rcases stepE_mem hx hk with hx | ⟨hn2, rfl⟩
    · exact h2.2 x hx
    · have kv : valK d.v = true := by
        rcases k3 with (k3 | k3) | k3
        · exact k3.1.2
        · exact absurd k3.1.1 hn2
        · exact absurd k3.1.1.1 hk
      unfold okEnt
      simp only [Bool.and_eq_true]
      exact ⟨⟨k1, kv⟩, k2⟩
theorem con_inv {lo hi : ByteArray} {r : Int} {es : List EntD} {ds : List DelD} (h1 : okBounds lo hi r = true) (h2 : BaseOK lo hi es) (h3 : okChain lo hi ds = true) : ∀ n, n ≤ ds.length → okBounds lo (highE hi (ds.take n)) (rightE r (ds.take n)) = true ∧ BaseOK lo (highE hi (ds.take n)) (entsE es (ds.take n))
  | 0, _ => by rw [List.take_zero]; exact ⟨h1, h2⟩
  | n + 1, hn => by
    obtain ⟨a, b⟩ := con_inv h1 h2 h3 n (by omega)
    have c : okDel lo (highE hi (ds.take n)) ds[n] = true := by
      unfold okChain at h3
      rw [List.all_eq_true] at h3
      have := h3 n (by simp; omega)
      rw [okAtD_at (by omega)] at this
      exact this
    rw [← List.take_append_getElem (show n < ds.length by omega), highE_snoc, rightE_snoc, entsE_snoc]
    exact con_step a b c
theorem baseOK_of {lo hi : ByteArray} {es : List EntD} (h : okBase lo hi es = true) : BaseOK lo hi es := by
  unfold okBase at h
  rw [List.all_eq_true] at h
  have h' : ∀ i, i < es.length → okAtE lo hi es i = true := fun i hi' => h i (by simpa using hi')
  refine ⟨rise_of_ok h', fun e he => ?_⟩
  obtain ⟨i, hi', rfl⟩ := List.mem_iff_getElem.1 he
  have := h' i hi'
  unfold okAtE at this
  rw [List.getElem?_eq_getElem hi'] at this
  simp only [Bool.and_eq_true] at this
  exact this.1
/-- A page put together is right. -/
theorem conPage_ok {lo hi : ByteArray} {r : Int} {es : List EntD} {ds : List DelD} (h : okPage lo hi r es ds = true) : okPage lo (highE hi ds) (rightE r ds) (entsE es ds) [] = true := by
  obtain ⟨p1, p2, p3, p4, p5, p6⟩ := ok_parts h
  obtain ⟨a, b⟩ := con_inv p1 (baseOK_of p4) p5 ds.length (Nat.le_refl _)
  rw [List.take_length] at a b
  unfold okPage
  simp only [Bool.and_eq_true, decide_eq_true_eq]
  exact ⟨⟨⟨⟨⟨a, p6⟩, by simp⟩, okBase_of b⟩, okChain_true fun i hi' => by simp at hi'⟩, p6⟩
end Go.Proofs.YtbhkmmdcdfjbkaaGreat

namespace Go.Proofs.YtbhkmmdcdfjbkaaGreat
open Go.RowKit

/-- No other page begins within a page's bounds. -/
def OneP (ps : List (Option PageD)) (q : PageD) : Prop := ((hiP q).toList.isEmpty = true ∧ cntGe ps q.lo ≤ 1) ∨ (ltK q.lo (hiP q) = true ∧ ps.countP (btP q.lo (hiP q)) ≤ 1)
theorem goT_one {ps : List (Option PageD)} (hok : ∀ p, some p ∈ ps → okP p = true) : ∀ (m : Nat) (id : Int) (low : ByteArray), goT ps m id low = true → cntGe ps low ≤ m → ∀ (y : Int) (q : PageD), getP ps y = some q → ltK q.lo low = false → OneP ps q
  | 0, _, low, _, hc, y, q, hq, hl => by
    exfalso
    have : 1 ≤ cntGe ps low := List.countP_pos_iff.2 ⟨_, getP_mem hq, by rw [geP_some, hl]; rfl⟩
    omega
  | m + 1, id, low, h, hc, y, q, hq, hl => by
    cases hg : getP ps id with
    | none => rw [goT_none hg] at h; cases h
    | some p =>
      by_cases hlo : p.lo = low
      · rw [goT_next hg hlo] at h
        have hm := getP_mem hg
        subst hlo
        obtain ⟨b1, b2⟩ := okP_bd (hok p hm)
        cases m with
        | zero =>
          have hone : q = p := one_at (P := geP p.lo) hc hg hq (by rw [geP_some, ltK_irr]; rfl) (by rw [geP_some, hl]; rfl)
          subst hone
          unfold goT at h
          rw [Bool.and_eq_true] at h
          exact .inl ⟨h.2, hc⟩
        | succ m =>
          cases hn : getP ps (riP p) with
          | none => rw [goT_none hn] at h; cases h
          | some p2 =>
            cases he : (hiP p).toList.isEmpty with
            | true => rw [b1 he, getP_neg (by omega)] at hn; cases hn
            | false =>
              have hlt := (b2 he).1
              have hcb := count_bt p.lo (hiP p) hlt ps
              have hge := goT_count hok _ _ _ h
              have hpos : 1 ≤ ps.countP (btP p.lo (hiP p)) := List.countP_pos_iff.2 ⟨_, hm, by unfold btP; rw [geP_some, geP_some, ltK_irr, hlt]; rfl⟩
              cases hqh : ltK q.lo (hiP p) with
              | false => exact goT_one hok (m + 1) _ _ h (by omega) y q hq hqh
              | true =>
                have hone : q = p := one_at (P := btP p.lo (hiP p)) (by omega) hg hq (by unfold btP; rw [geP_some, geP_some, ltK_irr, hlt]; rfl) (by unfold btP; rw [geP_some, geP_some, hl, hqh]; rfl)
                subst hone
                exact .inr ⟨hlt, by omega⟩
      · rw [goT_other hg hlo] at h; cases h
theorem GoodT.one {ps : List (Option PageD)} {idx : List RefD} (g : GoodT ps idx) {y : Int} {q : PageD} (h : getP ps y = some q) : OneP ps q :=
  goT_one g.ok (manyT ps) 0 ⟨#[]⟩ g.go (cntGe_many ps _) y q h (ltK_none _)
theorem one_id {ps : List (Option PageD)} {P : Option PageD → Bool} {x y : Int} {p q : PageD} (h1 : ps.countP P ≤ 1) (hp : getP ps x = some p) (hq : getP ps y = some q) (pp : P (some p) = true) (pq : P (some q) = true) : x = y := by
  obtain ⟨i, rfl, hi⟩ := getP_at hp
  obtain ⟨j, rfl, hj⟩ := getP_at hq
  rcases Nat.lt_trichotomy i j with h | h | h
  · have := count2 hi hj h pp pq; omega
  · rw [h]
  · have := count2 hj hi h pq pp; omega
/-- A text stands within a page's bounds. -/
def InP (p : PageD) (k : ByteArray) : Prop := ltK k p.lo = false ∧ underK k (hiP p) = true
theorem ltK_le {a b c : ByteArray} (h1 : ltK a b = false) (h2 : ltK b c = false) : ltK a c = false := by
  cases h : ltK a c
  · rfl
  · cases h3 : ltK c b with
    | true => have := ltK_trans h h3; rw [h1] at this; cases this
    | false => have := ltK_eq h2 h3; subst this; rw [h1] at h; cases h
theorem ltK_of_le {a b c : ByteArray} (h1 : ltK b a = false) (h2 : ltK b c = true) : ltK a c = true := by
  cases h3 : ltK a b with
  | true => exact ltK_trans h3 h2
  | false => have := ltK_eq h3 h1; subst this; exact h2
theorem GoodT.uni {ps : List (Option PageD)} {idx : List RefD} (g : GoodT ps idx) {k : ByteArray} {x y : Int} {p q : PageD} (hp : getP ps x = some p) (hq : getP ps y = some q) (ip : InP p k) (iq : InP q k) : x = y := by
  have key : ∀ {x y : Int} {p q : PageD}, getP ps x = some p → getP ps y = some q → InP p k → InP q k → ltK q.lo p.lo = false → x = y := fun {x y p q} hp hq ip iq hle => by
    -- p begins not behind q: q begins within p
    rcases g.one hp with ⟨he, h1⟩ | ⟨hlt, h1⟩
    · exact one_id (P := geP p.lo) h1 hp hq (by rw [geP_some, ltK_irr]; rfl) (by rw [geP_some, hle]; rfl)
    · have hql : ltK q.lo (hiP p) = true := by
        have hu := ip.2
        unfold underK at hu
        cases he : (hiP p).toList.isEmpty with
        | true =>
          have : hiP p = ⟨#[]⟩ := toList_inj (by rw [List.isEmpty_iff] at he; rw [he, ByteArray.toList_eq])
          rw [this, ltK_none] at hlt
          cases hlt
        | false =>
          rw [he, Bool.false_or] at hu
          exact ltK_of_le iq.1 hu
      exact one_id (P := btP p.lo (hiP p)) h1 hp hq (by unfold btP; rw [geP_some, geP_some, ltK_irr, hlt]; rfl) (by unfold btP; rw [geP_some, geP_some, hle, hql]; rfl)
  cases h : ltK q.lo p.lo with
  | false => exact key hp hq ip iq h
  | true => exact (key hq hp iq ip (ltK_asymm h)).symm
/-- The entries of a page. -/
abbrev enP (p : PageD) : List EntD := entsE p.es p.ds
theorem enP_in {p : PageD} (h : okP p = true) : ∀ e ∈ enP p, okEnt p.lo (hiP p) e = true := fun e he => by
  obtain ⟨p1, _, _, p4, p5, _⟩ := ok_parts h
  have := (con_inv p1 (baseOK_of p4) p5 p.ds.length (Nat.le_refl _)).2
  rw [List.take_length] at this
  exact this.2 e he
theorem enP_len {p : PageD} (h : okP p = true) : (enP p).length ≤ 32 := (ok_parts h).2.2.2.2.2
/-- The entries from a page on. -/
def scanF (ps : List (Option PageD)) : Nat → Int → List EntD
  | 0, _ => []
  | m + 1, id => match getP ps id with
    | some p => enP p ++ scanF ps m (riP p)
    | none => []
theorem scanF_some {ps : List (Option PageD)} {m : Nat} {id : Int} {p : PageD} (h : getP ps id = some p) : scanF ps (m + 1) id = enP p ++ scanF ps m (riP p) := by rw [scanF, h]
theorem scanF_none {ps : List (Option PageD)} {m : Nat} {id : Int} (h : getP ps id = none) : scanF ps m id = [] := by
  cases m with
  | zero => rfl
  | succ m => rw [scanF, h]
/-- All entries of a tree. -/
def treeE (ps : List (Option PageD)) : List EntD := scanF ps 40 0
theorem scan_fuel {ps : List (Option PageD)} {idx : List RefD} (g : GoodT ps idx) : ∀ (m n : Nat) (id : Int) (p : PageD), getP ps id = some p → cntGe ps p.lo ≤ m → cntGe ps p.lo ≤ n → scanF ps m id = scanF ps n id
  | 0, _, _, _, hg, hm, _ => by have := cntGe_here (getP_mem hg); omega
  | _ + 1, 0, _, _, hg, _, hn => by have := cntGe_here (getP_mem hg); omega
  | m + 1, n + 1, id, p, hg, hm, hn => by
    rw [scanF_some hg, scanF_some hg]
    rcases next_of g.ok g.go hg with ⟨hr, _⟩ | ⟨hlt, p2, hg2, e2⟩
    · rw [scanF_none (by rw [hr]; exact getP_neg (by omega)), scanF_none (by rw [hr]; exact getP_neg (by omega))]
    · have := cntGe_next (getP_mem hg) hlt
      rw [scan_fuel g m n (riP p) p2 hg2 (by rw [e2]; omega) (by rw [e2]; omega)]
theorem filter_out {p : PageD} (h : okP p = true) {a b : ByteArray} (hu : underK a (hiP p) = false) : (enP p).filter (fun e => inK a b e.k) = [] := by
  rw [List.filter_eq_nil_iff]
  intro e he
  have h1 := enP_in h e he
  obtain ⟨h2, h3⟩ := under_no hu
  unfold okEnt at h1
  simp only [Bool.and_eq_true] at h1
  have h4 := h1.2
  unfold inK at h4
  rw [h2, Bool.false_or, Bool.and_eq_true] at h4
  have : ltK e.k a = true := by
    cases h5 : ltK e.k a with
    | true => rfl
    | false => have := ltK_le h5 h3; rw [h4.2] at this; cases this
  unfold inK
  rw [this]
  simp
theorem scan_skip {ps : List (Option PageD)} {idx : List RefD} (g : GoodT ps idx) {a b : ByteArray} {x : Int} {q : PageD} (hx : getP ps x = some q) (iq : InP q a) : ∀ (n : Nat) (id : Int) (p : PageD), getP ps id = some p → ltK a p.lo = false → cntGe ps p.lo ≤ n → (scanF ps n id).filter (fun e => inK a b e.k) = (scanF ps 40 x).filter (fun e => inK a b e.k)
  | 0, _, _, hg, _, hn => by have := cntGe_here (getP_mem hg); omega
  | n + 1, id, p, hg, hl, hn => by
    have hok := g.ok p (getP_mem hg)
    cases hu : underK a (hiP p) with
    | true =>
      obtain rfl := g.uni hg hx ⟨hl, hu⟩ iq
      have h1 := cntGe_many ps p.lo
      have h2 := manyT_le ps
      have h3 := g.len.2
      rw [scan_fuel g (n + 1) 40 id p hg hn (by omega)]
    | false =>
      rw [scanF_some hg, List.filter_append, filter_out hok hu, List.nil_append]
      rcases next_of g.ok g.go hg with ⟨_, he⟩ | ⟨hlt, p2, hg2, e2⟩
      · rw [(under_no hu).1] at he; cases he
      · have := cntGe_next (getP_mem hg) hlt
        exact scan_skip g hx iq n (riP p) p2 hg2 (by rw [e2]; exact (under_no hu).2) (by rw [e2]; omega)
/-- Between two texts: from the page of the first on. -/
theorem scan_from {ps : List (Option PageD)} {idx : List RefD} (g : GoodT ps idx) (a b : ByteArray) : (treeE ps).filter (fun e => inK a b e.k) = (scanF ps 40 (downT ps idx a).1).filter (fun e => inK a b e.k) := by
  obtain ⟨q, hq, h1, h2, _⟩ := g.down a
  obtain ⟨h0, hl, hid⟩ := g.zero
  obtain ⟨p, hg, hlo⟩ := GoodT.ref g.ix h0
  rw [hid] at hg
  have h3 := cntGe_many ps p.lo
  have h4 := manyT_le ps
  have h5 := g.len.2
  exact scan_skip g hq ⟨h1, h2⟩ 40 0 p hg (by rw [hlo, hl]; exact ltK_none _) (by omega)
/-- Where a scan stands. -/
structure ScSt (ps : List (Option PageD)) (f : EntD → Bool) (all acc : List EntD) (id : Int) (c : Nat) : Prop where
  here : id = -1 ∨ ∃ p, getP ps id = some p ∧ c + cntGe ps p.lo ≤ manyT ps
  eq : all = acc ++ (scanF ps (40 - c) id).filter f
  len : acc.length ≤ 32 * c
  le : c ≤ 30
theorem ScSt.start {ps : List (Option PageD)} {f : EntD → Bool} {id : Int} {p : PageD} (h : getP ps id = some p) : ScSt ps f ((scanF ps 40 id).filter f) [] id 0 :=
  ⟨.inr ⟨p, h, by have := cntGe_many ps p.lo; omega⟩, rfl, by simp, by omega⟩
theorem ScSt.next {ps : List (Option PageD)} {idx : List RefD} {f : EntD → Bool} {all acc : List EntD} {id : Int} {c : Nat} (s : ScSt ps f all acc id c) (g : GoodT ps idx) {p : PageD} (hg : getP ps id = some p) : ScSt ps f all (acc ++ (enP p).filter f) (riP p) (c + 1) ∧ c < 30 := by
  have hc : c + cntGe ps p.lo ≤ manyT ps := by
    rcases s.here with h | ⟨p', h, hc⟩
    · rw [h, getP_neg (by omega)] at hg; cases hg
    · rw [hg] at h; injection h with h; rw [h]; exact hc
  have h1 := cntGe_here (getP_mem hg)
  have h2 := manyT_le ps
  have h3 := g.len.2
  have hlt : c < 30 := by omega
  have hlen := enP_len (g.ok p (getP_mem hg))
  refine ⟨⟨?_, ?_, ?_, by omega⟩, hlt⟩
  · rcases next_of g.ok g.go hg with ⟨hr, _⟩ | ⟨hl, p2, hg2, e2⟩
    · exact .inl hr
    · have := cntGe_next (getP_mem hg) hl
      exact .inr ⟨p2, hg2, by rw [e2]; omega⟩
  · obtain ⟨m, hm⟩ : ∃ m, 40 - c = m + 1 := ⟨40 - c - 1, by omega⟩
    rw [s.eq, hm, scanF_some hg, List.filter_append, show 40 - (c + 1) = m by omega, List.append_assoc]
  · have := s.len
    have hf := List.length_filter_le f (enP p)
    rw [List.length_append]
    omega
theorem ScSt.done {ps : List (Option PageD)} {f : EntD → Bool} {all acc : List EntD} {c : Nat} (s : ScSt ps f all acc (-1) c) : all = acc := by
  rw [s.eq, scanF_none (getP_neg (by omega))]
  simp
theorem ScSt.room {ps : List (Option PageD)} {f : EntD → Bool} {all acc : List EntD} {id : Int} {c : Nat} (s : ScSt ps f all acc id c) : acc.length ≤ 960 := by
  have := s.len
  have := s.le
  omega
theorem ScSt.neg {ps : List (Option PageD)} {f : EntD → Bool} {all acc : List EntD} {id : Int} {c : Nat} (s : ScSt ps f all acc id c) (h : id < 0) : id = -1 := by
  rcases s.here with h1 | ⟨p, h1, _⟩
  · exact h1
  · rw [getP_neg h] at h1; cases h1
theorem ScSt.pos {ps : List (Option PageD)} {f : EntD → Bool} {all acc : List EntD} {id : Int} {c : Nat} (s : ScSt ps f all acc id c) (h : id ≠ -1) : ∃ p, getP ps id = some p := by
  rcases s.here with h1 | ⟨p, h1, _⟩
  · exact absurd h1 h
  · exact ⟨p, h1⟩
/-- The entries of a tree between two texts. -/
def rangeE (ps : List (Option PageD)) (a b : ByteArray) : List EntD := (treeE ps).filter (fun e => inK a b e.k)
end Go.Proofs.YtbhkmmdcdfjbkaaGreat

namespace Go.Proofs.YtbhkmmdcdfjbkaaGreat
open Go.RowKit

/-- The digits of a number ahead of a text, an m ahead of both. -/
def mt (j : Nat) (s : ByteArray) : ByteArray := if _h : j = 0 then strOfNums [109] ++ s else mt (j / 10) (strOfNums [(48 + (j : Int) % 10)] ++ s)
termination_by j
decreasing_by omega

end Go.Proofs.YtbhkmmdcdfjbkaaGreat

namespace Go.Proofs.YtbhkmmdcdfjbkaaGreat
open Go.RowKit

theorem grownBy_below {w w' : World} {r : Option Nat} (h : Below w.heap.size w w') : w.grownBy w' r := ⟨h.os, h.tape, h.output, h.size, fun i hi _ => h.block i hi⟩
theorem ownsRow_below {w w' : World} {B e s n : Nat} {v : Value} {vs : List Value} (h : w.ownsRow B e s v n vs) (hb : Below w.heap.size w w') : w'.ownsRow B e s v n vs :=
  World.ownsRow.kept (row := none) h (grownBy_below hb) (by cases hv : v.ownBlock <;> simp)
end Go.Proofs.YtbhkmmdcdfjbkaaGreat

namespace Go.Proofs.YtbhkmmdcdfjbkaaGreat
open Go.RowKit

end Go.Proofs.YtbhkmmdcdfjbkaaGreat

namespace Go.Proofs.YtbhkmmdcdfjbkaaGreat
open Go.RowKit

/-- The blocks of a page's two lists. -/
def PgBlk (a : Option Addr) (n c : Nat) (a2 : Option Addr) (n2 c2 : Nat) (i : Nat) : Prop := (Value.slice a n c).ownBlock = some i ∨ (Value.slice a2 n2 c2).ownBlock = some i
/-- A page whose two lists are the call's own, from block B on, and apart. -/
def PgOwn (w : World) (B : Nat) (a : Option Addr) (n c : Nat) (a2 : Option Addr) (n2 c2 : Nat) (es : List EntD) (ds : List DelD) : Prop :=
  EOwns w B (.slice a n c) es ∧ DOwns w B (.slice a2 n2 c2) ds ∧ ∀ i, (Value.slice a n c).ownBlock = some i → ¬ (Value.slice a2 n2 c2).ownBlock = some i
theorem PgOwn.len {w : World} {B : Nat} {a : Option Addr} {n c : Nat} {a2 : Option Addr} {n2 c2 : Nat} {es : List EntD} {ds : List DelD} (h : PgOwn w B a n c a2 n2 c2 es ds) : n = es.length ∧ n2 = ds.length := ⟨(erow_of_owns h.1).1.symm, (drow_of_owns h.2.1).1.symm⟩
theorem PgOwn.wr {w w' : World} {P : Nat → Prop} {B : Nat} {a : Option Addr} {n c : Nat} {a2 : Option Addr} {n2 c2 : Nat} {es : List EntD} {ds : List DelD} (h : PgOwn w B a n c a2 n2 c2 es ds) (hw : Wr P w w') (hp : ∀ i, PgBlk a n c a2 n2 c2 i → ¬ P i) : PgOwn w' B a n c a2 n2 c2 es ds :=
  ⟨ownsRow_heap h.1 (fun g hg => hw.block g (h.1.lt g hg).2 (hp g (.inl hg))), ownsRow_heap h.2.1 (fun g hg => hw.block g (h.2.1.lt g hg).2 (hp g (.inr hg))), h.2.2⟩
theorem PgOwn.below {w w' : World} {B : Nat} {a : Option Addr} {n c : Nat} {a2 : Option Addr} {n2 c2 : Nat} {es : List EntD} {ds : List DelD} (h : PgOwn w B a n c a2 n2 c2 es ds) (hb : Below w.heap.size w w') : PgOwn w' B a n c a2 n2 c2 es ds :=
  h.wr (P := fun _ => False) (Wr.of_below hb) (fun _ _ h => h)
theorem PgOwn.base {w : World} {B C : Nat} {a : Option Addr} {n c : Nat} {a2 : Option Addr} {n2 c2 : Nat} {es : List EntD} {ds : List DelD} (h : PgOwn w B a n c a2 n2 c2 es ds) (hC : C ≤ B) : PgOwn w C a n c a2 n2 c2 es ds :=
  ⟨ownsRow_base h.1 hC, ownsRow_base h.2.1 hC, h.2.2⟩
end Go.Proofs.YtbhkmmdcdfjbkaaGreat

namespace Go.Proofs.YtbhkmmdcdfjbkaaGreat
open Go.RowKit

/-- A page put together. -/
def conP (lo hi : ByteArray) (r : Int) (es : List EntD) (ds : List DelD) : PageD := if okPage lo hi r es ds = true then ⟨lo, highE hi ds, rightE r ds, entsE es ds, []⟩ else ⟨ByteArray.empty, ByteArray.empty, 0, [], []⟩
def conC (lo hi : ByteArray) (r : Int) (es : List EntD) (ds : List DelD) : Int := if okPage lo hi r es ds = true then 0 else 1
/-- The answer of Consolidate. -/
def ConRes (lo hi : ByteArray) (r : Int) (es : List EntD) (ds : List DelD) (w : World) (e : Ending) (w' : World) : Prop :=
  ∃ a n c, e = .returned (.tuple #[pgv (conP lo hi r es ds).lo (conP lo hi r es ds).hi (conP lo hi r es ds).r a n c none 0 0, .int .i64 (conC lo hi r es ds)]) ∧ EOwns w' w.heap.size (.slice a n c) (conP lo hi r es ds).es ∧ Below w.heap.size w w'
/-- Five cells of a block stored anew. -/
abbrev set5 (w : World) (b : Nat) (v0 v1 v2 v3 v4 : Value) : World := ((((w.setCell ⟨b, 0, none⟩ v0).setCell ⟨b, 1, none⟩ v1).setCell ⟨b, 2, none⟩ v2).setCell ⟨b, 3, none⟩ v3).setCell ⟨b, 4, none⟩ v4
theorem set5_below {w w1 : World} {B b : Nat} (h : Below B w w1) (hb : B ≤ b) (v0 v1 v2 v3 v4 : Value) : Below B w (set5 w1 b v0 v1 v2 v3 v4) :=
  ((((h.setCell (p := ⟨b, 0, none⟩) hb _).setCell (p := ⟨b, 1, none⟩) hb _).setCell (p := ⟨b, 2, none⟩) hb _).setCell (p := ⟨b, 3, none⟩) hb _).setCell (p := ⟨b, 4, none⟩) hb _
theorem set5_owns {w : World} {B b e s n : Nat} {v : Value} {vs : List Value} (h : w.ownsRow B e s v n vs) (hb : b < B) (v0 v1 v2 v3 v4 : Value) : (set5 w b v0 v1 v2 v3 v4).ownsRow B e s v n vs :=
  ownsRow_set (ownsRow_set (ownsRow_set (ownsRow_set (ownsRow_set h hb _ _) hb _ _) hb _ _) hb _ _) hb _ _
theorem fz_cells {w : World} {b : Nat} {cs : Array Value} {t : TypeId} (h : w.heap[b]? = some (.cells cs t (0, 0))) : w.frozen? ⟨b, 0, none⟩ = false ∧ w.frozen? ⟨b, 1, none⟩ = false ∧ w.frozen? ⟨b, 2, none⟩ = false ∧ w.frozen? ⟨b, 3, none⟩ = false ∧ w.frozen? ⟨b, 4, none⟩ = false :=
  ⟨heap_frozen h 0, heap_frozen h 1, heap_frozen h 2, heap_frozen h 3, heap_frozen h 4⟩
theorem pg_cells5 {w : World} {b : Nat} {v0 v1 v2 v3 v4 : Value} {t : TypeId} (h : w.heap[b]? = some (.cells #[v0, v1, v2, v3, v4] t (0, 0))) : w.cell? ⟨b, 0, none⟩ = some v0 ∧ w.cell? ⟨b, 1, none⟩ = some v1 ∧ w.cell? ⟨b, 2, none⟩ = some v2 ∧ w.cell? ⟨b, 3, none⟩ = some v3 ∧ w.cell? ⟨b, 4, none⟩ = some v4 :=
  ⟨heap_cell h 0, heap_cell h 1, heap_cell h 2, heap_cell h 3, heap_cell h 4⟩
set_option maxRecDepth 100000 in
set_option maxHeartbeats 4000000 in
theorem page_any (sb : Nat) (lo hi : ByteArray) (r : Int) (a : Option Addr) (n c : Nat) (w : World) (h : SetAt w sb lo hi r (.slice a n c)) :
    Calls Tryz.prog 93 #[.pointer (some ⟨sb, 0, none⟩)] w fun e w' => e = .returned (pgv lo hi r a n c none 0 0) ∧ Below w.heap.size w w' := by
  have b0 : Below w.heap.size w (w.alloc (.cells #[.string ⟨#[]⟩, .string ⟨#[]⟩, .int .i64 0, .slice none 0 0, .slice none 0 0] 67)) := (Below.refl _ _).alloc (Nat.le_refl _) _
  have h' := h.below b0 h.lt
  have c0 := h'.c0
  have c1 := h'.c1
  have c2 := h'.c2
  have c3 := h'.c3
  obtain ⟨y0, y1, y2, y3, y4⟩ := pg_cells5 (heap_new (w := w) rfl #[.string ⟨#[]⟩, .string ⟨#[]⟩, .int .i64 0, .slice none 0 0, .slice none 0 0] 67)
  obtain ⟨f0, f1, f2, f3, f4⟩ := fz_cells (heap_new (w := w) rfl #[.string ⟨#[]⟩, .string ⟨#[]⟩, .int .i64 0, .slice none 0 0, .slice none 0 0] 67)
  clear h h'
  go_enter Tryz.func93, Tryz.ntmps93
  go_wp2_with fail
  generalize w.alloc (.cells #[.string ⟨#[]⟩, .string ⟨#[]⟩, .int .i64 0, .slice none 0 0, .slice none 0 0] 67) = W0 at *
  go_region
  all_goals
    go_wp2_with fail
    have B5 := (set5_below b0 (Nat.le_refl _) (.string lo) (.string hi) (.int .i64 r) (.slice a n c) (.slice none 0 0)).drew
    refine bodyPost_ret (v := pgv lo hi r a n c none 0 0) (by simp [results, Tryz.results93, go_sem, *]) rfl ?_
    exact ⟨rfl, B5⟩
/-- Two blocks at a call's head: a page and room for an answer. -/
theorem two_new (w : World) (v0 v1 v2 v3 v4 : Value) : ∃ W, W = (w.alloc (.cells #[v0, v1, v2, v3, v4] 67)).alloc (.cells #[.string ⟨#[]⟩, .string ⟨#[]⟩, .int .i64 0, .slice none 0 0, .slice none 0 0] 67) ∧ W.heap[w.heap.size]? = some (.cells #[v0, v1, v2, v3, v4] 67 (0, 0)) ∧
    W.heap[w.heap.size + 1]? = some (.cells #[.string ⟨#[]⟩, .string ⟨#[]⟩, .int .i64 0, .slice none 0 0, .slice none 0 0] 67 (0, 0)) ∧ W.heap.size = w.heap.size + 1 + 1 ∧ Below w.heap.size w W := by
  have z1 : (w.alloc (.cells #[v0, v1, v2, v3, v4] 67)).heap.size = w.heap.size + 1 := by simp
  have b2 : Below (w.heap.size + 1) (w.alloc (.cells #[v0, v1, v2, v3, v4] 67)) ((w.alloc (.cells #[v0, v1, v2, v3, v4] 67)).alloc (.cells #[.string ⟨#[]⟩, .string ⟨#[]⟩, .int .i64 0, .slice none 0 0, .slice none 0 0] 67)) := (Below.refl _ _).alloc (by omega) _
  exact ⟨_, rfl, (b2.block w.heap.size (by omega)).trans (heap_new rfl _ _), heap_new z1 _ _, by simp, ((Below.refl _ _).alloc (Nat.le_refl _) _).alloc (by simp) _⟩
set_option maxRecDepth 100000 in
set_option maxHeartbeats 4000000 in
theorem l04Consolidate_any (lo hi : ByteArray) (r : Int) (ab : Option Addr) (nb cb : Nat) (es : List EntD) (ac : Option Addr) (nc cc : Nat) (ds : List DelD) (w : World) (hE : ERow w ab nb es) (hD : DRow w ac nc ds) (hnb : nb ≤ 100) (hnc : nc ≤ 100) (hcb : ab = none → cb = 0) :
    Calls Tryz.prog 61 #[pgv lo hi r ab nb cb ac nc cc] w fun e w' => ∃ a n c, e = .returned (pgv lo (highE hi ds) (rightE r ds) a n c none 0 0) ∧ EOwns w' w.heap.size (.slice a n c) (entsE es ds) ∧ Below w.heap.size w w' := by
  obtain ⟨W, hW, k1, k2, z, b0⟩ := two_new w (.string lo) (.string hi) (.int .i64 r) (.slice ab nb cb) (.slice ac nc cc)
  have RE := hide (hE.below b0)
  have RD := hide (hD.below b0)
  have K1 := hide k1
  have K2 := hide k2
  clear hE hD k1 k2
  go_enter Tryz.func61, Tryz.ntmps61
  go_wp2_with fail
  rw [← hW]
  clear hW
  refine (l04Bounds_any lo hi r (.slice ab nb cb) ac nc cc ds W (unhide RD) (by omega)).mono ?_
  rintro e w1 ⟨rfl, hb1⟩
  have K1' := hide ((hb1.block w.heap.size (by omega)).trans (unhide K1))
  have K2' := hide ((hb1.block (w.heap.size + 1) (by omega)).trans (unhide K2))
  have B1 := b0.trans (hb1.mono b0.size)
  have z1 : w.heap.size + 1 + 1 ≤ w1.heap.size := by have := hb1.size; omega
  have RE1 := hide ((unhide RE).below hb1)
  have RD1 := hide ((unhide RD).below hb1)
  clear hb1 b0 RE RD K1 K2 z
  obtain ⟨p0, p1, p2, p3, p4⟩ := pg_cells5 (unhide K1')
  generalize hhi : highE hi ds = hi1 at *
  generalize hrr : rightE r ds = r1 at *
  have CE := hide (show ∀ w', w' = w1 ∨ w' = w1.drew ∨ (∃ q, w' = w1.drewN q) → Calls Tryz.prog 76 #[pgv lo hi r ab nb cb ac nc cc] w' fun x w2 => ∃ g cap, x = .returned (.slice (some ⟨g, 0, none⟩) (entsE es ds).length cap) ∧ EOwns w2 w1.heap.size (.slice (some ⟨g, 0, none⟩) (entsE es ds).length cap) (entsE es ds) ∧ Below w1.heap.size w1 w2 from fun w' h' => by
    rcases h' with rfl | rfl | ⟨q, rfl⟩
    · exact l04Entries_any lo hi r ab nb cb es ac nc cc ds _ (unhide RE1) (unhide RD1) hnb hnc hcb
    · refine (l04Entries_any lo hi r ab nb cb es ac nc cc ds w1.drew (unhide RE1) (unhide RD1) hnb hnc hcb).mono ?_
      rintro x w2 ⟨g, cap, e, o, b⟩
      exact ⟨g, cap, e, o, bel_of_drew b⟩
    · refine (l04Entries_any lo hi r ab nb cb es ac nc cc ds (w1.drewN q) (unhide RE1) (unhide RD1) hnb hnc hcb).mono ?_
      rintro x w2 ⟨g, cap, e, o, b⟩
      exact ⟨g, cap, e, o, bel_of_drewN b⟩)
  have YP := hide (show ∀ w2, Below w1.heap.size w1 w2 → w2.heap[w.heap.size]? = _ ∧ w2.heap[w.heap.size + 1]? = _ ∧ Below w.heap.size w w2 from fun w2 hb => ⟨(hb.block w.heap.size (by omega)).trans (unhide K1'), (hb.block (w.heap.size + 1) (by omega)).trans (unhide K2'), B1.trans (hb.mono B1.size)⟩)
  go_wp2_with fail
  go_region_with (go_at_call 76; refine (unhide CE _ (by first | exact .inl rfl | exact .inr (.inl rfl) | exact .inr (.inr ⟨_, rfl⟩))).mono ?_; rintro e w2 ⟨g, cap, rfl, hO, hb2⟩; obtain ⟨q1, q2, B2⟩ := unhide YP w2 hb2; obtain ⟨s0, s1, s2, s3, s4⟩ := pg_cells5 q1; obtain ⟨t0, t1, t2, t3, t4⟩ := pg_cells5 q2; obtain ⟨f0, f1, f2, f3, f4⟩ := fz_cells q2; have O2 := hide hO; clear hO hb2 q1 q2)
  all_goals
    go_wp2_with fail
    have hlt : w.heap.size + 1 < w1.heap.size := by omega
    refine bodyPost_ret (v := pgv lo hi1 r1 (some ⟨g, 0, none⟩) (entsE es ds).length cap none 0 0) (by simp [results, Tryz.results61, go_sem, *]) rfl ⟨_, _, _, by rw [hhi, hrr], ?_, set5_below B2 (Nat.le_succ _) _ _ _ _ _⟩
    exact ownsRow_base (set5_owns (unhide O2) hlt _ _ _ _ _) (by omega)
end Go.Proofs.YtbhkmmdcdfjbkaaGreat

namespace Go.Proofs.YtbhkmmdcdfjbkaaGreat
open Go.RowKit

theorem con_ok {lo hi : ByteArray} {r : Int} {es : List EntD} {ds : List DelD} (h : okPage lo hi r es ds = true) : conP lo hi r es ds = ⟨lo, highE hi ds, rightE r ds, entsE es ds, []⟩ ∧ conC lo hi r es ds = 0 := by unfold conP conC; rw [if_pos h, if_pos h]; exact ⟨rfl, rfl⟩
theorem con_bad {lo hi : ByteArray} {r : Int} {es : List EntD} {ds : List DelD} (h : okPage lo hi r es ds = false) : conP lo hi r es ds = ⟨ByteArray.empty, ByteArray.empty, 0, [], []⟩ ∧ conC lo hi r es ds = 1 := by unfold conP conC; rw [if_neg (by rw [h]; decide), if_neg (by rw [h]; decide)]; exact ⟨rfl, rfl⟩
theorem conRes_bad {lo hi : ByteArray} {r : Int} {es : List EntD} {ds : List DelD} {w w' : World} (h : okPage lo hi r es ds = false) (hb : Below w.heap.size w w') : ConRes lo hi r es ds w (.returned (.tuple #[pgv ByteArray.empty ByteArray.empty 0 none 0 0 none 0 0, .int .i64 1])) w' := by
  unfold ConRes
  rw [(con_bad h).1, (con_bad h).2]
  exact ⟨none, 0, 0, rfl, World.ownsRow_nil _ _ _ _, hb⟩
theorem conRes_ok {lo hi : ByteArray} {r : Int} {es : List EntD} {ds : List DelD} {w w' : World} {a : Option Addr} {n c : Nat} (h : okPage lo hi r es ds = true) (ho : EOwns w' w.heap.size (.slice a n c) (entsE es ds)) (hb : Below w.heap.size w w') : ConRes lo hi r es ds w (.returned (.tuple #[pgv lo (highE hi ds) (rightE r ds) a n c none 0 0, .int .i64 0])) w' := by
  unfold ConRes
  rw [(con_ok h).1, (con_ok h).2]
  exact ⟨a, n, c, rfl, ho, hb⟩
set_option maxRecDepth 100000 in
set_option maxHeartbeats 4000000 in
theorem implConsolidate_any (lo hi : ByteArray) (r : Int) (ab : Option Addr) (nb cb : Nat) (es : List EntD) (ac : Option Addr) (nc cc : Nat) (ds : List DelD) (w : World) (hE : ERow w ab nb es) (hD : DRow w ac nc ds) :
    Calls Tryz.prog 63 #[pgv lo hi r ab nb cb ac nc cc] w fun e w' => ConRes lo hi r es ds w e w' := by
  obtain ⟨W, hW, k1, k2, z, b0⟩ := two_new w (.string lo) (.string hi) (.int .i64 r) (.slice ab nb cb) (.slice ac nc cc)
  have RE := hide (hE.below b0)
  have RD := hide (hD.below b0)
  have K2 := hide k2
  clear hE hD k1 k2
  go_enter Tryz.func63, Tryz.ntmps63
  go_wp2_with fail
  rw [← hW]
  clear hW
  refine (settle_any lo hi r ab nb cb es ac nc cc ds W (unhide RE) (unhide RD)).mono ?_
  rintro e w1 ⟨v, b, rfl, ⟨hb, hs⟩, hb1⟩
  have K2' := hide ((hb1.block (w.heap.size + 1) (by omega)).trans (unhide K2))
  have B1 := b0.trans (hb1.mono b0.size)
  have z1 : w.heap.size + 1 + 1 ≤ w1.heap.size := by have := hb1.size; omega
  clear hb1 b0 RE RD K2
  cases b with
  | false =>
    have HOK := hide hb.symm
    clear hb hs
    obtain ⟨t0, t1, t2, t3, t4⟩ := pg_cells5 (unhide K2')
    obtain ⟨f0, f1, f2, f3, f4⟩ := fz_cells (unhide K2')
    go_wp2_with fail
    refine bodyPost_ret (v := .tuple #[pgv ByteArray.empty ByteArray.empty 0 none 0 0 none 0 0, .int .i64 1]) (by simp [results, Tryz.results63, go_sem, *] <;> rfl) rfl ?_
    exact conRes_bad (unhide HOK) (by first | exact set5_below B1 (Nat.le_succ _) _ _ _ _ _ | exact B1)
  | true =>
    obtain ⟨sb, a', n', c', rfl, hsb, hS⟩ := hs rfl
    have HOK := hide hb.symm
    have HS := hide hS
    clear hb hs hS
    go_wp2_with fail
    refine (page_any sb lo (highE hi ds) (rightE r ds) a' n' c' w1 (unhide HS).at_).mono ?_
    rintro e w2 ⟨rfl, hb2⟩
    have B2 := B1.trans (hb2.mono B1.size)
    have S2 := hide ((unhide HS).step hb2)
    obtain ⟨t0, t1, t2, t3, t4⟩ := pg_cells5 ((hb2.block (w.heap.size + 1) (by omega)).trans (unhide K2'))
    obtain ⟨f0, f1, f2, f3, f4⟩ := fz_cells ((hb2.block (w.heap.size + 1) (by omega)).trans (unhide K2'))
    clear hb2 K2' HS
    have HR := hide (fun w' (ho : EOwns w' w.heap.size (.slice a' n' c') (entsE es ds)) hb => conRes_ok (w := w) (unhide HOK) ho hb)
    have O2 := hide (unhide S2).own
    have hlt : w.heap.size + 1 < sb + 1 := by omega
    generalize highE hi ds = hi1 at *
    generalize rightE r ds = r1 at *
    go_wp2_with fail
    refine bodyPost_ret (v := .tuple #[pgv lo hi1 r1 a' n' c' none 0 0, .int .i64 0]) (by simp [results, Tryz.results63, go_sem, *]) rfl ?_
    exact unhide HR _ (ownsRow_base (set5_owns (unhide O2) hlt _ _ _ _ _) (by omega)) (set5_below B2 (Nat.le_succ _) _ _ _ _ _)
end Go.Proofs.YtbhkmmdcdfjbkaaGreat

namespace Go.Proofs.YtbhkmmdcdfjbkaaGreat
open Go.RowKit

set_option maxRecDepth 100000 in
set_option maxHeartbeats 4000000 in
theorem concatE1 (ob : Nat) (a : Option Addr) (n c : Nat) (es : List EntD) (w : World) (hc : w.cell? ⟨ob, 0, none⟩ = some (.slice a n c)) (hR : ERow w a n es) (hcn : a = none → c = 0) (hn : n ≤ 1100000) :
    Calls Tryz.prog 53 #[.slice (some ⟨ob, 0, none⟩) 1 1] w fun e w' => ∃ v, e = .returned v ∧ EOwns w' w.heap.size v es ∧ Below w.heap.size w w' := by
  have R := hide hR
  have hob := cell_lt hc
  clear hR
  go_enter Tryz.func53, Tryz.ntmps53
  go_wp2_with fail
  refine wp_loop_rounds 2 ?_
  rw [rounds_succ]
  go_wp2_with fail
  rw [rounds_succ]
  go_wp2_with fail
  refine (growE n w (by omega)).mono ?_
  rintro e w1 ⟨v1, rfl, hO, _, hb⟩
  obtain ⟨v2, w2, hr, hO2, hg2, _⟩ := run_appE (c := c) 36 hO ((unhide R).below hb) (by simp) (by omega) hcn hb.size
  have hc1 := (hb.cell (p := ⟨ob, 0, none⟩) hob).trans hc
  have B2 := hide (hb.trans ((Below.refl w.heap.size w1).grown hg2 hb.size (fun k hk => (hO.lt k hk).1)))
  have O2 := hide (show EOwns w2 w.heap.size v2 es from hO2)
  clear hO hO2 hg2 hb R
  go_wp2_with fail
  refine wp_loop_rounds 2 ?_
  rw [rounds_succ]
  go_wp2_with (at_builtin; refine wpAppE rfl _ _ 36 rfl _ _ v2 w2 rfl rfl hr ?_)
  rw [rounds_succ]
  go_wp2_with fail
  go_ret
  exact ⟨v2, rfl, unhide O2, unhide B2⟩
set_option maxRecDepth 100000 in
set_option maxHeartbeats 4000000 in
theorem concatD2 (ob : Nat) (a : Option Addr) (n c : Nat) (ds : List DelD) (b : Nat) (d : DelD) (w : World) (hc : w.cell? ⟨ob, 0, none⟩ = some (.slice a n c)) (hc2 : w.cell? ⟨ob, 1, none⟩ = some (.slice (some ⟨b, 0, none⟩) 1 1)) (hR : DRow w a n ds) (hD : DRow w (some ⟨b, 0, none⟩) 1 [d]) (hcn : a = none → c = 0) (hn : n ≤ 1100000) :
    Calls Tryz.prog 54 #[.slice (some ⟨ob, 0, none⟩) 2 2] w fun e w' => ∃ v, e = .returned v ∧ DOwns w' w.heap.size v (ds ++ [d]) ∧ Below w.heap.size w w' := by
  have R := hide hR
  have R2 := hide hD
  have LD := hide hR.1
  have hob := cell_lt hc
  clear hR hD
  go_enter Tryz.func54, Tryz.ntmps54
  go_wp2_with fail
  refine wp_loop_rounds 3 ?_
  rw [rounds_succ]
  go_wp2_with fail
  rw [rounds_succ]
  go_wp2_with fail
  rw [rounds_succ]
  go_wp2_with fail
  refine (growD (n + 1) w (by omega)).mono ?_
  rintro e w1 ⟨v1, rfl, hO, _, hb⟩
  obtain ⟨v2, w2, hr, hO2, hg2, _⟩ := run_appD (c := c) 65 hO ((unhide R).below hb) (by simp) (by omega) hcn hb.size
  have hc1 := (hb.cell (p := ⟨ob, 0, none⟩) hob).trans hc
  have b2 : Below w.heap.size w w2 := hb.trans ((Below.refl w.heap.size w1).grown hg2 hb.size (fun k hk => (hO.lt k hk).1))
  have hc3 := (b2.cell (p := ⟨ob, 1, none⟩) hob).trans hc2
  obtain ⟨v3, w3, hr3, hO3, hg3, _⟩ := run_appD (c := 1) 65 hO2 ((unhide R2).below b2) (by have := unhide LD; simp; omega) (by omega) (fun h => by cases h) b2.size
  have B3 := hide (b2.trans ((Below.refl w.heap.size w2).grown hg3 b2.size (fun k hk => (hO2.lt k hk).1)))
  have O3 := hide (show DOwns w3 w.heap.size v3 (ds ++ [d]) from hO3)
  clear hO hO2 hg2 hb R R2 hO3 hg3 b2
  go_wp2_with fail
  refine wp_loop_rounds 3 ?_
  rw [rounds_succ]
  go_wp2_with (at_builtin; refine wpAppE rfl _ _ 65 rfl _ _ v2 w2 rfl rfl hr ?_)
  rw [rounds_succ]
  go_wp2_with (at_builtin; refine wpAppE rfl _ _ 65 rfl _ _ v3 w3 rfl rfl hr3 ?_)
  rw [rounds_succ]
  go_wp2_with fail
  go_ret
  exact ⟨v3, rfl, unhide O3, unhide B3⟩
end Go.Proofs.YtbhkmmdcdfjbkaaGreat

namespace Go.Proofs.YtbhkmmdcdfjbkaaGreat
open Go.RowKit

theorem nil_lit {w : World} (e s : Nat) : (w.alloc (.cells #[] e)).ownsRow w.heap.size e s (.slice (some ⟨w.heap.size, 0, none⟩) 0 0) 0 [] := by
  have := World.ownsRow_lit (base := w.heap.size) (e := e) (size := s) w #[] 0 (Nat.le_refl _) (by unfold maxLen; simp) (by simp)
  simpa using this
set_option maxRecDepth 100000 in
set_option maxHeartbeats 4000000 in
theorem l04Own_any (lo hi : ByteArray) (r : Int) (ab : Option Addr) (nb cb : Nat) (es : List EntD) (ac : Option Addr) (nc cc : Nat) (ds : List DelD) (w : World) (hE : ERow w ab nb es) (hD : DRow w ac nc ds) (hnb : nb ≤ 1100000) (hnc : nc ≤ 1100000) (hcb : ab = none → cb = 0) (hcc : ac = none → cc = 0) :
    Calls Tryz.prog 62 #[pgv lo hi r ab nb cb ac nc cc] w fun e w' => ∃ a n c a2 n2 c2, e = .returned (pgv lo hi r a n c a2 n2 c2) ∧ PgOwn w' w.heap.size a n c a2 n2 c2 es ds ∧ Below w.heap.size w w' := by
  obtain ⟨W, hW, k1, k2, z, b0⟩ := two_new w (.string lo) (.string hi) (.int .i64 r) (.slice ab nb cb) (.slice ac nc cc)
  have bA : Below W.heap.size W (W.alloc (.cells #[] 41)) := (Below.refl _ _).alloc (Nat.le_refl _) _
  have OA := nil_lit (w := W) 41 2
  have zA : (W.alloc (.cells #[] 41)).heap.size = W.heap.size + 1 := by simp
  have KA1 := (bA.block w.heap.size (by omega)).trans k1
  have KA2 := (bA.block (w.heap.size + 1) (by omega)).trans k2
  obtain ⟨v1, w1, hr1, hO1, hg1, hv1⟩ := run_appE (c := cb) 36 (show EOwns _ _ _ [] from OA) ((hE.below b0).below bA) (by simp) (by omega) hcb (by omega)
  have b1 : Below W.heap.size W w1 := bA.trans ((Below.refl _ _).grown hg1 (by omega) (fun k hk => (World.ownsRow.lt OA k hk).1))
  have zW1 : W.heap.size ≤ w1.heap.size := b1.size
  obtain ⟨a1, n1, c1, rfl⟩ : ∃ a n c, v1 = .slice a n c := by
    rcases hO1.2 with ⟨e, _⟩ | ⟨g, cap, cur, e, _⟩
    · exact ⟨_, _, _, e⟩
    · exact ⟨_, _, _, e⟩
  have K1 := (b1.block w.heap.size (by omega)).trans k1
  have K2 := (b1.block (w.heap.size + 1) (by omega)).trans k2
  have B1 := b0.trans (b1.mono b0.size)
  clear bA OA zA KA2 hg1 b1 k2
  have c13 : w1.cell? ⟨w.heap.size, 3, none⟩ = some (.slice ab nb cb) := heap_cell K1 3
  have f13 := heap_frozen K1 3
  have zs : (w1.setCell ⟨w.heap.size, 3, none⟩ (.slice a1 n1 c1)).heap.size = w1.heap.size := by simp [World.setCell]
  have K1s := heap_set K1 3 (.slice a1 n1 c1)
  have K2s := (Below.heap_setCell w1 ⟨w.heap.size, 3, none⟩ (.slice a1 n1 c1) (w.heap.size + 1) (by simp)).trans K2
  have O1s := ownsRow_set (show w1.ownsRow _ _ _ _ _ _ from hO1) (sb := w.heap.size) (by omega) 3 (.slice a1 n1 c1)
  have Bs := B1.setCell (p := ⟨w.heap.size, 3, none⟩) (Nat.le_refl _) (.slice a1 n1 c1)
  obtain ⟨ws, hws⟩ : ∃ ws, ws = w1.setCell ⟨w.heap.size, 3, none⟩ (.slice a1 n1 c1) := ⟨_, rfl⟩
  rw [← hws] at zs K1s K2s O1s Bs
  have bC : Below ws.heap.size ws (ws.alloc (.cells #[] 90)) := (Below.refl _ _).alloc (Nat.le_refl _) _
  have OC := nil_lit (w := ws) 90 4
  have zC : (ws.alloc (.cells #[] 90)).heap.size = ws.heap.size + 1 := by simp
  obtain ⟨v3, w3, hr3, hO3, hg3, hv3⟩ := run_appD (c := cc) 65 (show DOwns _ _ _ [] from OC) ((hD.below Bs).below bC) (by simp) (by omega) hcc (by omega)
  have b3 : Below ws.heap.size ws w3 := bC.trans ((Below.refl _ _).grown hg3 (by omega) (fun k hk => (World.ownsRow.lt OC k hk).1))
  obtain ⟨a3, n3, c3, rfl⟩ : ∃ a n c, v3 = .slice a n c := by
    rcases hO3.2 with ⟨e, _⟩ | ⟨g, cap, cur, e, _⟩
    · exact ⟨_, _, _, e⟩
    · exact ⟨_, _, _, e⟩
  have K1c := (bC.block w.heap.size (by omega)).trans K1s
  have K1t := (b3.block w.heap.size (by omega)).trans K1s
  have K2t := (b3.block (w.heap.size + 1) (by omega)).trans K2s
  have O1t := ownsRow_below O1s b3
  have B3 := Bs.trans (b3.mono Bs.size)
  have zz3 := b3.size
  have AP : ∀ i, (Value.slice a1 n1 c1).ownBlock = some i → ¬ (Value.slice a3 n3 c3).ownBlock = some i := fun i h1 h2 => by
    have := (O1s.lt i h1).2
    have := (hO3.lt i h2).1
    omega
  have K1u := heap_set K1t 4 (.slice a3 n3 c3)
  have K2u := (Below.heap_setCell w3 ⟨w.heap.size, 4, none⟩ (.slice a3 n3 c3) (w.heap.size + 1) (by simp)).trans K2t
  have O1u := ownsRow_set O1t (sb := w.heap.size) (by omega) 4 (.slice a3 n3 c3)
  have O3u := ownsRow_set (show w3.ownsRow _ _ _ _ _ _ from hO3) (sb := w.heap.size) (by omega) 4 (.slice a3 n3 c3)
  have Bu := B3.setCell (p := ⟨w.heap.size, 4, none⟩) (Nat.le_refl _) (.slice a3 n3 c3)
  have d3 : (ws.alloc (.cells #[] 90)).cell? ⟨w.heap.size, 4, none⟩ = some (.slice ac nc cc) := heap_cell K1c 4
  have c34 : w3.cell? ⟨w.heap.size, 4, none⟩ = some (.slice ac nc cc) := heap_cell K1t 4
  have f34 := heap_frozen K1t 4
  have cA3 : (W.alloc (.cells #[] 41)).cell? ⟨w.heap.size, 3, none⟩ = some (.slice ab nb cb) := heap_cell KA1 3
  obtain ⟨wu, hwu⟩ : ∃ wu, wu = w3.setCell ⟨w.heap.size, 4, none⟩ (.slice a3 n3 c3) := ⟨_, rfl⟩
  rw [← hwu] at K1u K2u O1u O3u Bu
  have u0 : wu.cell? ⟨w.heap.size, 0, none⟩ = some (.string lo) := heap_cell K1u 0
  have u1 : wu.cell? ⟨w.heap.size, 1, none⟩ = some (.string hi) := heap_cell K1u 1
  have u2 : wu.cell? ⟨w.heap.size, 2, none⟩ = some (.int .i64 r) := heap_cell K1u 2
  have u3 : wu.cell? ⟨w.heap.size, 3, none⟩ = some (.slice a1 n1 c1) := heap_cell K1u 3
  have u4 : wu.cell? ⟨w.heap.size, 4, none⟩ = some (.slice a3 n3 c3) := heap_cell K1u 4
  obtain ⟨t0, t1, t2, t3, t4⟩ := pg_cells5 K2u
  obtain ⟨f0, f1, f2, f3, f4⟩ := fz_cells K2u
  have hb1 : w.heap.size + 1 < W.heap.size := by omega
  have hb3 : w.heap.size + 1 < ws.heap.size := by omega
  have FE := hide (set5_owns O1u hb1 (.string lo) (.string hi) (.int .i64 r) (.slice a1 n1 c1) (.slice a3 n3 c3))
  have FD := hide (set5_owns O3u hb3 (.string lo) (.string hi) (.int .i64 r) (.slice a1 n1 c1) (.slice a3 n3 c3))
  have FB := hide (set5_below Bu (Nat.le_succ _) (.string lo) (.string hi) (.int .i64 r) (.slice a1 n1 c1) (.slice a3 n3 c3))
  have HR1 := hide hr1
  have HR3 := hide hr3
  have HWS := hide hws
  have HWU := hide hwu
  have HW := hide hW
  have HAP := hide AP
  have hle1 : w.heap.size ≤ W.heap.size := by omega
  have hle2 : w.heap.size ≤ ws.heap.size := by omega
  clear K1u K2u O1u O3u Bu K1t K2t O1t B3 hO3 hg3 b3 K1c bC OC zC O1s Bs K1s K2s K1 K2 hO1 KA1 B1 k1 b0 hE hD hr1 hr3 hws hwu hW AP hv1 hv3 zz3 zW1 hb1 hb3 z zs
  go_enter Tryz.func62, Tryz.ntmps62
  go_upto_region 1 with fail
  rw [← unhide HW]
  go_upto_region 2 with (at_builtin; refine wpAppE rfl _ _ 36 rfl _ _ _ w1 rfl rfl (unhide HR1) ?_)
  rw [← unhide HWS]
  clear cA3 c13 f13
  go_upto_region 3 with (at_builtin; refine wpAppE rfl _ _ 65 rfl _ _ _ w3 rfl rfl (unhide HR3) ?_)
  rw [← unhide HWU]
  clear d3 c34 f34
  go_wp2_with fail
  refine bodyPost_ret (v := pgv lo hi r a1 n1 c1 a3 n3 c3) (by simp [results, Tryz.results62, go_sem, *]) rfl ?_
  exact ⟨_, _, _, _, _, _, rfl, ⟨ownsRow_base (unhide FE) hle1, ownsRow_base (unhide FD) hle2, unhide HAP⟩, unhide FB⟩
end Go.Proofs.YtbhkmmdcdfjbkaaGreat

namespace Go.Proofs.YtbhkmmdcdfjbkaaGreat
open Go.RowKit

/-- A change as a value. -/
abbrev dv (d : DelD) : Value := .agg #[.int .i64 d.kind, .string d.k, .string d.v, .int .i64 d.to]
/-- The code of Extend. -/
def extC (lo hi : ByteArray) (r : Int) (es : List EntD) (ds : List DelD) (d : DelD) : Int :=
  if okPage lo hi r es ds = false then 1 else if okDel lo (highE hi ds) d = false then 4 else if ds.length = 12 then 7 else if 32 < (entsE es (ds ++ [d])).length then 6 else 0
/-- The page of Extend. -/
def extP (lo hi : ByteArray) (r : Int) (es : List EntD) (ds : List DelD) (d : DelD) : PageD := if extC lo hi r es ds d = 0 then ⟨lo, hi, r, es, ds ++ [d]⟩ else ⟨ByteArray.empty, ByteArray.empty, 0, [], []⟩
/-- The answer of Extend. -/
def ExtRes (lo hi : ByteArray) (r : Int) (es : List EntD) (ds : List DelD) (d : DelD) (w : World) (e : Ending) (w' : World) : Prop :=
  ∃ a n c a2 n2 c2, e = .returned (.tuple #[pgv (extP lo hi r es ds d).lo (extP lo hi r es ds d).hi (extP lo hi r es ds d).r a n c a2 n2 c2, .int .i64 (extC lo hi r es ds d)]) ∧ PgOwn w' w.heap.size a n c a2 n2 c2 (extP lo hi r es ds d).es (extP lo hi r es ds d).ds ∧ Below w.heap.size w w'
theorem own_apart {w : World} {B C : Nat} {v v2 : Value} {es : List EntD} {ds : List DelD} (h1 : EOwns w B v es) (h2 : DOwns w C v2 ds) : ∀ i, v.ownBlock = some i → ¬ v2.ownBlock = some i := by
  intro i e1 e2
  rcases h1.2 with ⟨rfl, _⟩ | ⟨g, cap, cur, rfl, _, hh, _⟩
  · cases e1
  rcases h2.2 with ⟨rfl, _⟩ | ⟨g2, cap2, cur2, rfl, _, hh2, _⟩
  · cases e2
  simp only [Value.ownBlock, Option.some.injEq] at e1 e2
  subst e1 e2
  rw [hh] at hh2
  injection hh2 with hh2
  injection hh2 with _ hh2
  exact absurd hh2 (by decide)
theorem pgown_nil (w : World) (B : Nat) : PgOwn w B none 0 0 none 0 0 [] [] := ⟨World.ownsRow_nil _ _ _ _, World.ownsRow_nil _ _ _ _, fun i h => by cases h⟩
theorem ext_bad {lo hi : ByteArray} {r : Int} {es : List EntD} {ds : List DelD} {d : DelD} {w w' : World} {k : Int} (h : extC lo hi r es ds d = k) (hk : k ≠ 0) (hb : Below w.heap.size w w') : ExtRes lo hi r es ds d w (.returned (.tuple #[pgv ByteArray.empty ByteArray.empty 0 none 0 0 none 0 0, .int .i64 k])) w' := by
  have e : extP lo hi r es ds d = ⟨ByteArray.empty, ByteArray.empty, 0, [], []⟩ := by unfold extP; rw [if_neg (by rw [h]; exact hk)]
  unfold ExtRes
  rw [e, h]
  exact ⟨none, 0, 0, none, 0, 0, rfl, pgown_nil _ _, hb⟩
theorem ext_good {lo hi : ByteArray} {r : Int} {es : List EntD} {ds : List DelD} {d : DelD} {w w' : World} {a : Option Addr} {n c : Nat} {a2 : Option Addr} {n2 c2 : Nat} (h : extC lo hi r es ds d = 0) (ho : EOwns w' w.heap.size (.slice a n c) es) (ho2 : DOwns w' w.heap.size (.slice a2 n2 c2) (ds ++ [d])) (hb : Below w.heap.size w w') : ExtRes lo hi r es ds d w (.returned (.tuple #[pgv lo hi r a n c a2 n2 c2, .int .i64 0])) w' := by
  have e : extP lo hi r es ds d = ⟨lo, hi, r, es, ds ++ [d]⟩ := by unfold extP; rw [if_pos h]
  unfold ExtRes
  rw [e, h]
  exact ⟨a, n, c, a2, n2, c2, rfl, ⟨ho, ho2, own_apart ho ho2⟩, hb⟩
theorem ext1 {lo hi : ByteArray} {r : Int} {es : List EntD} {ds : List DelD} {d : DelD} (h : okPage lo hi r es ds = false) : extC lo hi r es ds d = 1 := by unfold extC; rw [if_pos h]
theorem ext4 {lo hi : ByteArray} {r : Int} {es : List EntD} {ds : List DelD} {d : DelD} (h : okPage lo hi r es ds = true) (h1 : okDel lo (highE hi ds) d = false) : extC lo hi r es ds d = 4 := by unfold extC; rw [if_neg (by rw [h]; decide), if_pos h1]
theorem ext7 {lo hi : ByteArray} {r : Int} {es : List EntD} {ds : List DelD} {d : DelD} (h : okPage lo hi r es ds = true) (h1 : okDel lo (highE hi ds) d = true) (h2 : ds.length = 12) : extC lo hi r es ds d = 7 := by unfold extC; rw [if_neg (by rw [h]; decide), if_neg (by rw [h1]; decide), if_pos h2]
theorem ext6 {lo hi : ByteArray} {r : Int} {es : List EntD} {ds : List DelD} {d : DelD} (h : okPage lo hi r es ds = true) (h1 : okDel lo (highE hi ds) d = true) (h2 : ¬ ds.length = 12) (h3 : 32 < (entsE es (ds ++ [d])).length) : extC lo hi r es ds d = 6 := by unfold extC; rw [if_neg (by rw [h]; decide), if_neg (by rw [h1]; decide), if_neg h2, if_pos h3]
theorem ext0 {lo hi : ByteArray} {r : Int} {es : List EntD} {ds : List DelD} {d : DelD} (h : okPage lo hi r es ds = true) (h1 : okDel lo (highE hi ds) d = true) (h2 : ¬ ds.length = 12) (h3 : ¬ 32 < (entsE es (ds ++ [d])).length) : extC lo hi r es ds d = 0 := by unfold extC; rw [if_neg (by rw [h]; decide), if_neg (by rw [h1]; decide), if_neg h2, if_neg h3]
/-- Three blocks at a call's head: a page, a change and room for an answer. -/
theorem three_new (w : World) (v0 v1 v2 v3 v4 : Value) (d : DelD) : ∃ W, W = ((w.alloc (.cells #[v0, v1, v2, v3, v4] 67)).alloc (.cells #[.int .i64 d.kind, .string d.k, .string d.v, .int .i64 d.to] 90)).alloc (.cells #[.string ⟨#[]⟩, .string ⟨#[]⟩, .int .i64 0, .slice none 0 0, .slice none 0 0] 67) ∧ W.heap[w.heap.size]? = some (.cells #[v0, v1, v2, v3, v4] 67 (0, 0)) ∧
    W.heap[w.heap.size + 1]? = some (.cells #[.int .i64 d.kind, .string d.k, .string d.v, .int .i64 d.to] 90 (0, 0)) ∧ W.heap[w.heap.size + 1 + 1]? = some (.cells #[.string ⟨#[]⟩, .string ⟨#[]⟩, .int .i64 0, .slice none 0 0, .slice none 0 0] 67 (0, 0)) ∧ W.heap.size = w.heap.size + 1 + 1 + 1 ∧ Below w.heap.size w W := by
  obtain ⟨W1, h1⟩ : ∃ W1, W1 = w.alloc (.cells #[v0, v1, v2, v3, v4] 67) := ⟨_, rfl⟩
  have z1 : W1.heap.size = w.heap.size + 1 := by rw [h1]; simp
  have k1 : W1.heap[w.heap.size]? = some (.cells #[v0, v1, v2, v3, v4] 67 (0, 0)) := by rw [h1]; exact heap_new rfl _ _
  have b1 : Below w.heap.size w W1 := by rw [h1]; exact (Below.refl _ _).alloc (Nat.le_refl _) _
  obtain ⟨W2, h2⟩ : ∃ W2, W2 = W1.alloc (.cells #[.int .i64 d.kind, .string d.k, .string d.v, .int .i64 d.to] 90) := ⟨_, rfl⟩
  have z2 : W2.heap.size = w.heap.size + 1 + 1 := by rw [h2]; simp [z1]
  have k2 : W2.heap[w.heap.size + 1]? = some (.cells #[.int .i64 d.kind, .string d.k, .string d.v, .int .i64 d.to] 90 (0, 0)) := by rw [h2]; exact heap_new z1 _ _
  have b2 : Below W1.heap.size W1 W2 := by rw [h2]; exact (Below.refl _ _).alloc (Nat.le_refl _) _
  obtain ⟨W3, h3⟩ : ∃ W3, W3 = W2.alloc (.cells #[.string ⟨#[]⟩, .string ⟨#[]⟩, .int .i64 0, .slice none 0 0, .slice none 0 0] 67) := ⟨_, rfl⟩
  have b3 : Below W2.heap.size W2 W3 := by rw [h3]; exact (Below.refl _ _).alloc (Nat.le_refl _) _
  refine ⟨W3, by rw [h3, h2, h1], (b3.block _ (by omega)).trans ((b2.block _ (by omega)).trans k1), (b3.block _ (by omega)).trans k2, by rw [h3]; exact heap_new z2 _ _, by rw [h3]; simp [z2], ?_⟩
  exact b1.trans ((b2.mono (by omega)).trans (b3.mono (by omega)))
theorem d_cells {w : World} {b : Nat} {d : DelD} {t : TypeId} (h : w.heap[b]? = some (.cells #[.int .i64 d.kind, .string d.k, .string d.v, .int .i64 d.to] t (0, 0))) : w.cell? ⟨b, 0, none⟩ = some (.int .i64 d.kind) ∧ w.cell? ⟨b, 1, none⟩ = some (.string d.k) ∧ w.cell? ⟨b, 2, none⟩ = some (.string d.v) ∧ w.cell? ⟨b, 3, none⟩ = some (.int .i64 d.to) :=
  ⟨heap_cell h 0, heap_cell h 1, heap_cell h 2, heap_cell h 3⟩
theorem drow_one {w : World} {b : Nat} {d : DelD} {t : TypeId} (h : w.heap[b]? = some (.cells #[.int .i64 d.kind, .string d.k, .string d.v, .int .i64 d.to] t (0, 0))) : DRow w (some ⟨b, 0, none⟩) 1 [d] := by
  obtain ⟨h0, h1, h2, h3⟩ := d_cells h
  refine ⟨rfl, fun i hi => ⟨b, 0, rfl, ?_⟩⟩
  obtain rfl : i = 0 := by simp at hi; omega
  exact ⟨h0, h1, h2, h3⟩
end Go.Proofs.YtbhkmmdcdfjbkaaGreat

namespace Go.Proofs.YtbhkmmdcdfjbkaaGreat
open Go.RowKit

theorem ext_facts {lo hi : ByteArray} {r : Int} {es : List EntD} {ds : List DelD} {d : DelD} (h : extC lo hi r es ds d = 0) : okPage lo hi r es ds = true ∧ okDel lo (highE hi ds) d = true ∧ okPage lo hi r es (ds ++ [d]) = true := by
  unfold extC at h
  split at h
  · cases h
  · rename_i h1
    split at h
    · cases h
    · rename_i h2
      split at h
      · cases h
      · rename_i h3
        split at h
        · cases h
        · rename_i h4
          have k1 : okPage lo hi r es ds = true := by simpa using h1
          have k2 : okDel lo (highE hi ds) d = true := by simpa using h2
          obtain ⟨p1, p2, p3, p4, p5, p6⟩ := ok_parts k1
          refine ⟨k1, k2, ?_⟩
          unfold okPage
          simp only [Bool.and_eq_true, decide_eq_true_eq]
          refine ⟨⟨⟨⟨⟨p1, p2⟩, by simp; omega⟩, p4⟩, ?_⟩, by omega⟩
          refine okChain_true fun i hi' => ?_
          rw [okAtD_at hi']
          rw [List.length_append] at hi'
          by_cases hl : i < ds.length
          · rw [List.getElem_append_left hl, List.take_append_of_le_length (by omega)]
            unfold okChain at p5
            rw [List.all_eq_true] at p5
            have := p5 i (by simpa using hl)
            rw [okAtD_at hl] at this
            exact this
          · obtain rfl : i = ds.length := by simp at hi'; omega
            rw [List.take_append_of_le_length (Nat.le_refl _), List.take_length]
            simpa using k2
end Go.Proofs.YtbhkmmdcdfjbkaaGreat
