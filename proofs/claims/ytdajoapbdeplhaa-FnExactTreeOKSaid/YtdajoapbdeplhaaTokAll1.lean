/-
  PageO, TrS, PageP, PageQ, TrT, MtF, TrLaw, PgIn, GdR, JxIn, TrIn, TrOKP in one.
-/
import Derived.Test.YtdajoapbdeplhaaPageN
import Derived.Test.YtdajoapbdeplhaaMtE
import Derived.Deep.DeepCutAuto
import Derived.Deep.RegionWith
import Derived.Test.YtdajoapbdeplhaaTrV
import Derived.Deep.RegionHeld3
import Derived.Test.YtdajoapbdeplhaaPgP
import Derived.Deep.Slices
import Derived.Lib.SmallJoins
import Derived.OpenShut
import Derived.Test.YtdajoapbdeplhaaGdA
import Derived.Deep.Grids
import Derived.Test.YtdajoapbdeplhaaJxC
import Derived.Deep.Strs
import Derived.ProofKit
import Derived.ShutString
import Derived.ChangeOld
import Derived.Below
namespace Go.Proofs.Ytdajoapbdeplhaa
open Go.RowKit

set_option maxRecDepth 100000 in
set_option maxHeartbeats 4000000 in
theorem l04Bounds_any (lo hi : ByteArray) (r : Int) (vb : Value) (ac : Option Addr) (nc cc : Nat) (ds : List DelD) (w : World) (hD : DRow w ac nc ds) (hnc : nc ≤ 100000) :
    Calls Try.prog 52 #[.agg #[.string lo, .string hi, .int .i64 r, vb, .slice ac nc cc]] w fun x w' => x = .returned (.tuple #[.string (highE hi ds), .int .i64 (rightE r ds)]) ∧ Below w.heap.size w w' := by
  have b0 : Below w.heap.size w (w.alloc (.cells #[.string lo, .string hi, .int .i64 r, vb, .slice ac nc cc] 53)) := (Below.refl _ _).alloc (Nat.le_refl _) _
  have LD := hide hD.1
  have RD := hide (hD.below b0)
  clear hD
  have p4 : (w.alloc (.cells #[.string lo, .string hi, .int .i64 r, vb, .slice ac nc cc] 53)).cell? ⟨w.heap.size, 4, none⟩ = some (.slice ac nc cc) := by simp
  go_enter Try.func52, Try.ntmps52
  go_wp2_with fail
  generalize w.alloc (.cells #[.string lo, .string hi, .int .i64 r, vb, .slice ac nc cc] 53) = W0 at *
  go_loop [4, 5, 6] (fun h g i => ∃ q : Nat, i = .int .i64 (q : Int) ∧ q ≤ nc ∧ h = .string (highE hi (ds.take q)) ∧ g = .int .i64 (rightE r (ds.take q))) (fun _ _ i => nc - (intOf i).toNat)
  case atStart => exact ⟨0, rfl, Nat.zero_le _, rfl, rfl⟩
  case round =>
    obtain ⟨q, rfl, hq, rfl, rfl⟩ := hrel
    by_cases hlt : q < nc
    · have hqe : q < ds.length := by have := unhide LD; omega
      obtain ⟨b, off, rfl, d0, d1, d2, d3⟩ := (unhide RD).2 q hqe
      have HH := hide ((congrArg (highE hi) (takeG_snoc ds q hqe)).trans (highE_snoc hi (ds.take q) ds[q]))
      have HR := hide ((congrArg (rightE r) (takeG_snoc ds q hqe)).trans (rightE_snoc r (ds.take q) ds[q]))
      generalize ds[q] = d at *
      generalize highE hi (ds.take q) = h1 at *
      generalize rightE r (ds.take q) = r1 at *
      by_cases hk : d.kind = 3
      · have hk' : (d.kind == 3) = true := by simp [hk]
        have HK := hide hk
        clear hk
        go_wp2_with fail
        go_round
        case rel => exact ⟨q + 1, by go_num, by omega, by rw [unhide HH, if_pos (unhide HK)], by rw [unhide HR, if_pos (unhide HK)]⟩
        case measure => simp [intOf]; omega
      · have hk' : (d.kind == 3) = false := by simp [hk]
        have HK := hide hk
        clear hk
        go_wp2_with fail
        go_round
        case rel => exact ⟨q + 1, by go_num, by omega, by rw [unhide HH, if_neg (unhide HK)], by rw [unhide HR, if_neg (unhide HK)]⟩
        case measure => simp [intOf]; omega
    · obtain rfl : q = nc := by omega
      have TD := hide (show ds.take q = ds from List.take_of_length_le (by rw [unhide LD]; exact Nat.le_refl _))
      rw [unhide TD]
      go_wp2_with fail
      go_ret2
      exact ⟨rfl, b0⟩
theorem bool_way (K U L V T0 E G I x1 x2 x3 : Bool) (hv : E = true → V = true) : (K && (!L && U) && ((x1 && V && T0) || (x2 && E && T0) || (x3 && E && G && I))) = (K && U && !L && V && ((x1 && T0) || (x2 && T0 && E) || (x3 && E && G && I))) := by
  cases E with
  | false =>
    clear hv
    revert K U L V T0 G I x1 x2 x3
    decide
  | true =>
    obtain rfl := hv rfl
    clear hv
    revert K U L T0 G I x1 x2 x3
    decide
theorem okDel_way (lo hi : ByteArray) (d : DelD) (K U L V T0 E G I : Bool) (k1 k2 k3 : Prop) [Decidable k1] [Decidable k2] [Decidable k3] (h1 : keyK d.k = K) (h2 : underK d.k hi = U) (h3 : Op.bytesLess d.k.toList lo.toList = L) (h4 : valK d.v = V) (h5 : decide (d.to = 0) = T0) (h6 : d.v.toList.isEmpty = E) (h7 : Op.bytesLess lo.toList d.k.toList = G) (h8 : idK d.to = I) (e1 : d.kind = 1 ↔ k1) (e2 : d.kind = 2 ↔ k2) (e3 : d.kind = 3 ↔ k3) :
    okDel lo hi d = (K && U && !L && V && ((decide k1 && T0) || (decide k2 && T0 && E) || (decide k3 && E && G && I))) := by
  have hv : E = true → V = true := by
    intro h
    rw [← h4, valK, decide_eq_true_eq]
    rw [← h6, List.isEmpty_iff] at h
    have : d.v.size = d.v.toList.length := by rw [ByteArray.toList_eq]; simp
    rw [this, h]
    exact Nat.zero_le _
  have a1 : decide (d.kind = 1) = decide k1 := decide_eq_decide.2 e1
  have a2 : decide (d.kind = 2) = decide k2 := decide_eq_decide.2 e2
  have a3 : decide (d.kind = 3) = decide k3 := decide_eq_decide.2 e3
  unfold okDel inK
  unfold underK at h2
  unfold ltK at *
  rw [h1, h2, h3, h4, h5, h6, h7, h8, a1, a2, a3]
  exact bool_way K U L V T0 E G I _ _ _ hv
set_option maxRecDepth 100000 in
set_option maxHeartbeats 4000000 in
theorem l04Delta_any (d : DelD) (lo hi : ByteArray) (w : World) :
    Calls Try.prog 50 #[.agg #[.int .i64 d.kind, .string d.k, .string d.v, .int .i64 d.to], .string lo, .string hi] w fun x w' => x = .returned (.bool (okDel lo hi d)) ∧ Below w.heap.size w w' := by
  have b0 := hide (show Below w.heap.size w (w.alloc (.cells #[.int .i64 d.kind, .string d.k, .string d.v, .int .i64 d.to] 93)) from (Below.refl _ _).alloc (Nat.le_refl _) _)
  have hid : (decide (0 ≤ d.to) && decide (d.to ≤ 1000)) = idK d.to := by unfold idK; rw [Bool.decide_and]
  have W := hide (okDel_way lo hi d _ _ _ _ _ _ _ _ _ _ _ rfl rfl rfl rfl rfl rfl rfl rfl Iff.rfl Iff.rfl Iff.rfl)
  obtain ⟨R, hR⟩ : ∃ R, R = okDel lo hi d := ⟨_, rfl⟩
  rw [← hR]
  replace hR := hide hR
  by_cases hk : keyK d.k = true
  · by_cases hu : underK d.k hi = true
    · by_cases hl : Op.bytesLess d.k.toList lo.toList = true
      · have E := hide (show false = R by rw [unhide hR, unhide W]; simp [hk, hu, hl])
        go_enter Try.func50, Try.ntmps50
        go_wp2_with (first | (go_at_call 33; refine (l04Key_any d.k _).mono ?_; rintro e w1 ⟨rfl, rfl⟩) | (go_at_call 49; refine (l04Under_any d.k hi _).mono ?_; rintro e w1 ⟨rfl, rfl⟩) | (go_at_call 22; refine (l01In_any d.to 0 1000 _).mono ?_; rintro e w1 ⟨rfl, rfl⟩; rw [hid]))
        go_ret
        exact ⟨ret_bool (by first | exact unhide E | (rw [← unhide E]; simp) | (rw [← unhide E]; exact hid)), unhide b0⟩
      · have hl' : (Op.bytesLess d.k.toList lo.toList) = false := by simpa using hl
        by_cases hv : d.v.size ≤ 100
        · have hv' : valK d.v = true := decide_eq_true hv
          by_cases k1 : d.kind = 1
          · have q1 : (d.kind == 1) = true := by simp [k1]
            have K1 := hide k1
            have E := hide (show decide (d.to = 0) = R by rw [unhide hR, unhide W]; simp [hk, hu, hl', hv', k1])
            clear k1
            go_enter Try.func50, Try.ntmps50
            go_wp2_with (first | (go_at_call 33; refine (l04Key_any d.k _).mono ?_; rintro e w1 ⟨rfl, rfl⟩) | (go_at_call 49; refine (l04Under_any d.k hi _).mono ?_; rintro e w1 ⟨rfl, rfl⟩) | (go_at_call 22; refine (l01In_any d.to 0 1000 _).mono ?_; rintro e w1 ⟨rfl, rfl⟩; rw [hid]))
            go_ret
            exact ⟨ret_bool (by rw [← unhide E]; first | rfl | exact (Bool.eq_iff_iff.2 (by simp))), unhide b0⟩
          · have q1 : (d.kind == 1) = false := by simp [k1]
            by_cases k2 : d.kind = 2
            · have q2 : (d.kind == 2) = true := by simp [k2]
              by_cases ht : d.to = 0
              · have E := hide (show d.v.toList.isEmpty = R by rw [unhide hR, unhide W]; simp [hk, hu, hl', hv', k2, ht])
                have qt : (d.to == 0) = true := by simp [ht]
                clear k1 k2 ht
                go_enter Try.func50, Try.ntmps50
                go_wp2_with (first | (go_at_call 33; refine (l04Key_any d.k _).mono ?_; rintro e w1 ⟨rfl, rfl⟩) | (go_at_call 49; refine (l04Under_any d.k hi _).mono ?_; rintro e w1 ⟨rfl, rfl⟩) | (go_at_call 22; refine (l01In_any d.to 0 1000 _).mono ?_; rintro e w1 ⟨rfl, rfl⟩; rw [hid]))
                go_ret
                exact ⟨ret_bool (unhide E), unhide b0⟩
              · have E := hide (show false = R by rw [unhide hR, unhide W]; simp [hk, hu, hl', hv', k2, ht])
                have qt : (d.to == 0) = false := by simp [ht]
                clear k1 k2 ht
                go_enter Try.func50, Try.ntmps50
                go_wp2_with (first | (go_at_call 33; refine (l04Key_any d.k _).mono ?_; rintro e w1 ⟨rfl, rfl⟩) | (go_at_call 49; refine (l04Under_any d.k hi _).mono ?_; rintro e w1 ⟨rfl, rfl⟩) | (go_at_call 22; refine (l01In_any d.to 0 1000 _).mono ?_; rintro e w1 ⟨rfl, rfl⟩; rw [hid]))
                go_ret
                exact ⟨ret_bool (unhide E), unhide b0⟩
            · have q2 : (d.kind == 2) = false := by simp [k2]
              by_cases k3 : d.kind = 3
              · have q3 : (d.kind == 3) = true := by simp [k3]
                by_cases hb : d.v.toList.isEmpty = true
                · by_cases hg : Op.bytesLess lo.toList d.k.toList = true
                  · have E := hide (show idK d.to = R by rw [unhide hR, unhide W]; simp [hk, hu, hl', hv', k3, hb, hg])
                    have hne : (d.k.toList == lo.toList) = false := by have := bl_turn d.k.toList lo.toList; rw [hg, hl'] at this; simpa using this
                    have hne' : ¬ d.k.toList = lo.toList := by simpa using hne
                    clear k1 k2 k3
                    go_enter Try.func50, Try.ntmps50
                    go_wp2_with (first | (go_at_call 33; refine (l04Key_any d.k _).mono ?_; rintro e w1 ⟨rfl, rfl⟩) | (go_at_call 49; refine (l04Under_any d.k hi _).mono ?_; rintro e w1 ⟨rfl, rfl⟩) | (go_at_call 22; refine (l01In_any d.to 0 1000 _).mono ?_; rintro e w1 ⟨rfl, rfl⟩; rw [hid]))
                    go_ret
                    exact ⟨ret_bool (unhide E), unhide b0⟩
                  · have hg' : Op.bytesLess lo.toList d.k.toList = false := by simpa using hg
                    have E := hide (show false = R by rw [unhide hR, unhide W]; simp [hk, hu, hl', hv', k3, hb, hg'])
                    have hne : (d.k.toList == lo.toList) = true := by have := bl_turn d.k.toList lo.toList; rw [hg', hl'] at this; simpa using this
                    clear k1 k2 k3
                    go_enter Try.func50, Try.ntmps50
                    go_wp2_with (first | (go_at_call 33; refine (l04Key_any d.k _).mono ?_; rintro e w1 ⟨rfl, rfl⟩) | (go_at_call 49; refine (l04Under_any d.k hi _).mono ?_; rintro e w1 ⟨rfl, rfl⟩) | (go_at_call 22; refine (l01In_any d.to 0 1000 _).mono ?_; rintro e w1 ⟨rfl, rfl⟩; rw [hid]))
                    go_ret
                    exact ⟨ret_bool (unhide E), unhide b0⟩
                · have hb' : d.v.toList.isEmpty = false := by simpa using hb
                  have E := hide (show false = R by rw [unhide hR, unhide W]; simp [hk, hu, hl', hv', k3, hb'])
                  clear k1 k2 k3
                  go_enter Try.func50, Try.ntmps50
                  go_wp2_with (first | (go_at_call 33; refine (l04Key_any d.k _).mono ?_; rintro e w1 ⟨rfl, rfl⟩) | (go_at_call 49; refine (l04Under_any d.k hi _).mono ?_; rintro e w1 ⟨rfl, rfl⟩) | (go_at_call 22; refine (l01In_any d.to 0 1000 _).mono ?_; rintro e w1 ⟨rfl, rfl⟩; rw [hid]))
                  go_ret
                  exact ⟨ret_bool (unhide E), unhide b0⟩
              · have q3 : (d.kind == 3) = false := by simp [k3]
                have E := hide (show false = R by rw [unhide hR, unhide W]; simp [hk, hu, hl', hv', k1, k2, k3])
                clear k1 k2 k3
                go_enter Try.func50, Try.ntmps50
                go_wp2_with (first | (go_at_call 33; refine (l04Key_any d.k _).mono ?_; rintro e w1 ⟨rfl, rfl⟩) | (go_at_call 49; refine (l04Under_any d.k hi _).mono ?_; rintro e w1 ⟨rfl, rfl⟩) | (go_at_call 22; refine (l01In_any d.to 0 1000 _).mono ?_; rintro e w1 ⟨rfl, rfl⟩; rw [hid]))
                go_ret
                exact ⟨ret_bool (unhide E), unhide b0⟩
        · have hv' : valK d.v = false := decide_eq_false hv
          have E := hide (show false = R by rw [unhide hR, unhide W]; simp [hk, hu, hl', hv'])
          go_enter Try.func50, Try.ntmps50
          go_wp2_with (first | (go_at_call 33; refine (l04Key_any d.k _).mono ?_; rintro e w1 ⟨rfl, rfl⟩) | (go_at_call 49; refine (l04Under_any d.k hi _).mono ?_; rintro e w1 ⟨rfl, rfl⟩) | (go_at_call 22; refine (l01In_any d.to 0 1000 _).mono ?_; rintro e w1 ⟨rfl, rfl⟩; rw [hid]))
          go_ret
          exact ⟨ret_bool (by first | exact unhide E | (rw [← unhide E]; simp) | (rw [← unhide E]; exact hid)), unhide b0⟩
    · have hu' : (underK d.k hi) = false := by simpa using hu
      have E := hide (show false = R by rw [unhide hR, unhide W]; simp [hk, hu'])
      go_enter Try.func50, Try.ntmps50
      go_wp2_with (first | (go_at_call 33; refine (l04Key_any d.k _).mono ?_; rintro e w1 ⟨rfl, rfl⟩) | (go_at_call 49; refine (l04Under_any d.k hi _).mono ?_; rintro e w1 ⟨rfl, rfl⟩) | (go_at_call 22; refine (l01In_any d.to 0 1000 _).mono ?_; rintro e w1 ⟨rfl, rfl⟩; rw [hid]))
      go_ret
      exact ⟨ret_bool (by first | exact unhide E | (rw [← unhide E]; simp) | (rw [← unhide E]; exact hid)), unhide b0⟩
  · have hk' : (keyK d.k) = false := by simpa using hk
    have E := hide (show false = R by rw [unhide hR, unhide W]; simp [hk'])
    go_enter Try.func50, Try.ntmps50
    go_wp2_with (first | (go_at_call 33; refine (l04Key_any d.k _).mono ?_; rintro e w1 ⟨rfl, rfl⟩) | (go_at_call 49; refine (l04Under_any d.k hi _).mono ?_; rintro e w1 ⟨rfl, rfl⟩) | (go_at_call 22; refine (l01In_any d.to 0 1000 _).mono ?_; rintro e w1 ⟨rfl, rfl⟩; rw [hid]))
    go_ret
    exact ⟨ret_bool (by first | exact unhide E | (rw [← unhide E]; simp) | (rw [← unhide E]; exact hid)), unhide b0⟩
end Go.Proofs.Ytdajoapbdeplhaa

namespace Go.Proofs.Ytdajoapbdeplhaa
open Go.RowKit

theorem here_get {hs : List PpH} {gs : List Bool} {idx : List RefD} {k : Nat} (h1 : k < hs.length) (h2 : k < gs.length) : getP (trd hs gs idx).here (k : Int) = if gs[k] then none else some hs[k].X := by
  rw [getP_nat]
  have hl : k < (trd hs gs idx).here.length := by simp [trd, TreD.here]; omega
  rw [List.getElem?_eq_getElem hl]
  simp [trd, TreD.here]
theorem here_out {hs : List PpH} {gs : List Bool} {idx : List RefD} {x : Int} (h : (hs.length : Int) ≤ x) : getP (trd hs gs idx).here x = none := by
  obtain ⟨k, rfl⟩ : ∃ k : Nat, x = (k : Int) := ⟨x.toNat, by omega⟩
  rw [getP_nat, List.getElem?_eq_none (by simp [trd, TreD.here]; omega)]
  rfl
theorem here_many {hs : List PpH} {gs : List Bool} {idx : List RefD} {k : Nat} (h1 : k < hs.length) (h2 : k < gs.length) : manyT ((trd hs gs idx).here.take (k + 1)) = manyT ((trd hs gs idx).here.take k) + (if gs[k] then 0 else 1) := by
  rw [here_at h1 h2]
  unfold manyT
  rw [List.countP_append]
  cases gs[k] <;> rfl
theorem goT_none {ps : List (Option PageD)} {m : Nat} {x : Int} {low : ByteArray} (h : getP ps x = none) : goT ps (m + 1) x low = false := by unfold goT; rw [h]
theorem goT_other {ps : List (Option PageD)} {m : Nat} {x : Int} {low : ByteArray} {p : PageD} (h : getP ps x = some p) (hl : p.lo ≠ low) : goT ps (m + 1) x low = false := by unfold goT; rw [h]; simp only; rw [decide_eq_false hl]; rfl
theorem goT_next {ps : List (Option PageD)} {m : Nat} {x : Int} {low : ByteArray} {p : PageD} (h : getP ps x = some p) (hl : p.lo = low) : goT ps (m + 1) x low = goT ps m (riP p) (hiP p) := by
  conv => lhs; unfold goT
  rw [h]
  simp only
  rw [decide_eq_true hl, Bool.true_and]
set_option maxRecDepth 100000 in
set_option maxHeartbeats 4000000 in
theorem l05Whole_any (ap : Option Addr) (np cp : Nat) (ag : Option Addr) (cg : Nat) (ai : Option Addr) (ni ci : Nat) (hs : List PpH) (gs : List Bool) (idx : List RefD) (w : World) (hT : TrIn w ap np cp ag np cg ai ni hs gs idx) (hn : np ≤ 30) (hc : ∀ h ∈ hs, h.s1.n ≤ 100000) :
    Calls Try.prog 25 #[.agg #[.slice ap np cp, .slice ag np cg, .slice ai ni ci]] w fun e w' => e = .returned (.bool (goT (trd hs gs idx).here (manyT (trd hs gs idx).here) 0 ⟨#[]⟩)) ∧ Below w.heap.size w w' := by
  have b0 : ∀ o, Below w.heap.size w (w.alloc o) := fun o => (Below.refl _ _).alloc (Nat.le_refl _) _
  have lp := hT.plen
  have lg := hT.glen
  have hhl : (trd hs gs idx).here.length = np := by simp [trd, TreD.here]; omega
  have BW := hide (b0 (.cells #[.slice ap np cp, .slice ag np cg, .slice ai ni ci] 32))
  have T := hide (hT.below (unhide BW))
  have BT := hide (show ∀ u, Below (w.alloc (.cells #[.slice ap np cp, .slice ag np cg, .slice ai ni ci] 32)).heap.size (w.alloc (.cells #[.slice ap np cp, .slice ag np cg, .slice ai ni ci] 32)) u → Below w.heap.size w u from fun u hu => (unhide BW).trans (hu.mono (unhide BW).size))
  have t0 : (w.alloc (.cells #[.slice ap np cp, .slice ag np cg, .slice ai ni ci] 32)).cell? ⟨w.heap.size, 0, none⟩ = some (.slice ap np cp) := by simp
  have t1 : (w.alloc (.cells #[.slice ap np cp, .slice ag np cg, .slice ai ni ci] 32)).cell? ⟨w.heap.size, 1, none⟩ = some (.slice ag np cg) := by simp
  obtain ⟨G, hG⟩ : ∃ G, G = goT (trd hs gs idx).here (manyT (trd hs gs idx).here) 0 ⟨#[]⟩ := ⟨_, rfl⟩
  rw [← hG]
  have HG := hide hG
  clear hG hT BW
  go_enter Try.func25, Try.ntmps25
  go_wp2_with fail
  generalize w.alloc (.cells #[.slice ap np cp, .slice ag np cg, .slice ai ni ci] 32) = W at *
  go_loopw [3, 4] (fun c i wr => ∃ k : Nat, k ≤ np ∧ i = .int .i64 k ∧ c = .int .i64 ((manyT ((trd hs gs idx).here.take k) : Nat) : Int) ∧ Hid (wr = W)) (fun _ i _ => np - (intOf i).toNat)
  case atStart => exact ⟨0, Nat.zero_le _, rfl, rfl, by first | exact hide rfl | exact hide trivial⟩
  case round =>
    obtain ⟨k, hk, rfl, rfl, hww⟩ := hrel
    have hww := unhide hww
    subst wr
    by_cases hlt : k < np
    · have hk1 : k < hs.length := by omega
      have hk2 : k < gs.length := by omega
      obtain ⟨b', off', hag, g0⟩ := RowC.at (unhide T).gone (j := k) (u := .bool gs[k]) (by rw [List.getElem?_map, List.getElem?_eq_getElem hk2]; rfl)
      subst hag
      have ST := hide (here_many (idx := idx) hk1 hk2)
      have hml : manyT ((trd hs gs idx).here.take k) ≤ 30 := by have h1 := manyT_le ((trd hs gs idx).here.take k); rw [List.length_take] at h1; omega
      generalize gs[k] = gk at *
      cases gk
      · have ST2 := hide (show manyT ((trd hs gs idx).here.take (k + 1)) = manyT ((trd hs gs idx).here.take k) + 1 from unhide ST)
        generalize manyT ((trd hs gs idx).here.take k) = mm at *
        go_wp2_with fail
        go_roundw
        case rel => exact ⟨k + 1, by omega, by go_num, by rw [unhide ST2]; go_num, by first | exact hide rfl | exact hide trivial⟩
        case measure => simp [intOf]; omega
      · have ST2 := hide (show manyT ((trd hs gs idx).here.take (k + 1)) = manyT ((trd hs gs idx).here.take k) from unhide ST)
        go_wp2_with fail
        go_roundw
        case rel => exact ⟨k + 1, by omega, by go_num, by rw [unhide ST2], by first | exact hide rfl | exact hide trivial⟩
        case measure => simp [intOf]; omega
    · obtain rfl : k = np := by omega
      have Z := hide (show (trd hs gs idx).here.take k = (trd hs gs idx).here from List.take_of_length_le (by omega))
      rw [unhide Z] at *
      have hml : manyT (trd hs gs idx).here ≤ 30 := by have h1 := manyT_le (trd hs gs idx).here; omega
      clear Z
      go_wp2_with fail
      obtain ⟨M, hM⟩ : ∃ M, M = manyT (trd hs gs idx).here := ⟨_, rfl⟩
      rw [← hM] at hml HG
      rw [← hM]
      clear hM
      go_loopw [5, 6, 7] (fun x l i wr => ∃ (j : Nat) (y : Int) (low : ByteArray), j ≤ M ∧ x = .int .i64 y ∧ l = .string low ∧ i = .int .i64 j ∧ Hid (G = goT (trd hs gs idx).here (M - j) y low) ∧ Below W.heap.size W wr) (fun _ _ i _ => M - (intOf i).toNat)
      case atStart => exact ⟨0, 0, ⟨#[]⟩, Nat.zero_le _, rfl, rfl, rfl, HG, Below.refl _ _⟩
      case round =>
        obtain ⟨j, y, low, hj, rfl, rfl, rfl, hg, hb⟩ := hrel
        have bR := hide (unhide BT _ hb)
        have s0 := (hb.cell (p := ⟨w.heap.size, 0, none⟩) (cell_lt t0)).trans t0
        have s1 := (hb.cell (p := ⟨w.heap.size, 1, none⟩) (cell_lt t1)).trans t1
        by_cases hlt2 : j < M
        case neg =>
          obtain rfl : j = M := by omega
          have E := hide (show (decide (y < 0) && low.toList.isEmpty) = G by
            rw [unhide hg, Nat.sub_self]
            rfl)
          clear hg
          cases hy : decide (y < 0) with
          | true =>
            have hy1 : y < 0 := of_decide_eq_true hy
            rw [hy] at E
            go_wp2_with fail
            go_ret
            exact ⟨ret_bool (by rw [← unhide E]; rfl), unhide bR⟩
          | false =>
            have hy1 : ¬ y < 0 := of_decide_eq_false hy
            rw [hy] at E
            go_wp2_with fail
            go_ret
            exact ⟨ret_bool (by rw [← unhide E]; rfl), unhide bR⟩
        obtain ⟨m, hm⟩ : ∃ m, M - j = m + 1 := ⟨M - j - 1, by omega⟩
        rw [hm] at hg
        have hm2 : m = M - (j + 1) := by omega
        by_cases hy : y < 0
        · have E := hide (show false = G by rw [unhide hg, goT_none (getP_neg hy)])
          clear hg
          go_wp2_with fail
          go_ret
          exact ⟨ret_bool (unhide E), unhide bR⟩
        by_cases hy2 : (k : Int) ≤ y
        · have E := hide (show false = G by rw [unhide hg, goT_none (here_out (by omega))])
          clear hg
          go_wp2_with fail
          go_ret
          exact ⟨ret_bool (unhide E), unhide bR⟩
        obtain ⟨q, rfl⟩ : ∃ q : Nat, y = (q : Int) := ⟨y.toNat, by omega⟩
        have hq1 : q < hs.length := by omega
        have hq2 : q < gs.length := by omega
        have HGT := here_get (idx := idx) hq1 hq2
        obtain ⟨b', off', hag, g0⟩ := RowC.at ((unhide T).below hb).gone (j := q) (u := .bool gs[q]) (by rw [List.getElem?_map, List.getElem?_eq_getElem hq2]; rfl)
        subst hag
        obtain ⟨b, off, hap, hbl, d0, d1, d2, d3, d4⟩ := PpIn.cells ((unhide T).below hb).pgs hq1
        subst hap
        cases hgq : gs[q] with
        | true =>
          rw [hgq] at HGT g0
          have E := hide (show false = G by rw [unhide hg, goT_none HGT])
          clear hg HGT
          go_wp2_with fail
          go_ret
          exact ⟨ret_bool (unhide E), unhide bR⟩
        | false =>
          rw [hgq] at HGT g0
          have HB := hide (l04Bounds_any hs[q].X.lo hs[q].X.hi hs[q].X.r (.slice hs[q].s0.a hs[q].s0.n hs[q].s0.c) hs[q].s1.a hs[q].s1.n hs[q].s1.c hs[q].X.ds wr (drow_C (PpIn.sub ((unhide T).below hb).pgs hq1).2) (hc _ (List.getElem_mem hq1)))
          by_cases hlo : hs[q].X.lo = low
          case neg =>
            have E := hide (show false = G by rw [unhide hg, goT_other HGT hlo])
            have hne : (hs[q].X.lo.toList == low.toList) = false := by
              cases hq2 : (hs[q].X.lo.toList == low.toList) with
              | false => rfl
              | true => exact absurd (toList_inj (by simpa using hq2)) hlo
            clear hg HGT HB
            generalize hs[q] = pd at *
            obtain ⟨X, s0', s1'⟩ := pd
            simp only at d0 d1 d2 d3 d4 hne hlo
            go_wp2_with fail
            go_ret
            exact ⟨ret_bool (unhide E), unhide bR⟩
          have E := hide (show G = goT (trd hs gs idx).here m (riP hs[q].X) (hiP hs[q].X) by rw [unhide hg, goT_next HGT hlo])
          clear hg HGT
          subst hlo
          generalize hs[q] = pd at *
          obtain ⟨X, ⟨a0, n0, c0⟩, ⟨a1, n1, c1⟩⟩ := pd
          simp only at d0 d1 d2 d3 d4 HB E
          go_wp2_with fail
          refine (unhide HB).mono ?_
          rintro e w2 ⟨rfl, hb2⟩
          have bA := hide (hb.trans (hb2.mono hb.size))
          clear HB d0 d1 d2 d3 d4 g0 s0 s1 hb hb2
          go_wp2_with fail
          go_roundw
          case rel => exact ⟨j + 1, _, _, by omega, rfl, rfl, by go_num, (by rw [← hm2]; exact E), unhide bA⟩
          case measure => simp [intOf]; omega
end Go.Proofs.Ytdajoapbdeplhaa

namespace Go.Proofs.Ytdajoapbdeplhaa
open Go.RowKit

theorem bounds_bad {lo hi : ByteArray} {r : Int} (h : okBounds lo hi r = false) : 40 < lo.size ∨ (lo.size ≤ 40 ∧ 40 < hi.size) ∨ (lo.size ≤ 40 ∧ hi.size ≤ 40 ∧ hi.toList.isEmpty = true ∧ r < -1) ∨ (lo.size ≤ 40 ∧ hi.size ≤ 40 ∧ hi.toList.isEmpty = true ∧ 0 ≤ r) ∨
    (lo.size ≤ 40 ∧ hi.size ≤ 40 ∧ hi.toList.isEmpty = false ∧ Op.bytesLess lo.toList hi.toList = false) ∨ (lo.size ≤ 40 ∧ hi.size ≤ 40 ∧ hi.toList.isEmpty = false ∧ Op.bytesLess lo.toList hi.toList = true ∧ 1000 < r) ∨ (lo.size ≤ 40 ∧ hi.size ≤ 40 ∧ hi.toList.isEmpty = false ∧ Op.bytesLess lo.toList hi.toList = true ∧ r < 0) := by
  unfold okBounds ltK idK at h
  by_cases h1 : lo.size ≤ 40
  · by_cases h2 : hi.size ≤ 40
    · rw [decide_eq_true h1, decide_eq_true h2] at h
      cases h3 : hi.toList.isEmpty with
      | true =>
        rw [h3] at h
        have : r ≠ -1 := by simpa using h
        by_cases h4 : r < -1
        · exact .inr (.inr (.inl ⟨h1, h2, rfl, h4⟩))
        · exact .inr (.inr (.inr (.inl ⟨h1, h2, rfl, by omega⟩)))
      | false =>
        rw [h3] at h
        cases h5 : Op.bytesLess lo.toList hi.toList with
        | false => exact .inr (.inr (.inr (.inr (.inl ⟨h1, h2, rfl, rfl⟩))))
        | true =>
          rw [h5] at h
          have : ¬ (0 ≤ r ∧ r ≤ 1000) := by simpa using h
          by_cases h4 : r < 0
          · exact .inr (.inr (.inr (.inr (.inr (.inr ⟨h1, h2, rfl, rfl, h4⟩)))))
          · exact .inr (.inr (.inr (.inr (.inr (.inl ⟨h1, h2, rfl, rfl, by omega⟩)))))
    · exact .inr (.inl ⟨h1, by omega⟩)
  · exact .inl (by omega)
theorem bounds_good {lo hi : ByteArray} {r : Int} (h : okBounds lo hi r = true) : lo.size ≤ 40 ∧ hi.size ≤ 40 ∧ ((hi.toList.isEmpty = true ∧ r = -1) ∨ (hi.toList.isEmpty = false ∧ Op.bytesLess lo.toList hi.toList = true ∧ 0 ≤ r ∧ r ≤ 1000)) := by
  unfold okBounds ltK idK at h
  cases h3 : hi.toList.isEmpty with
  | true =>
    rw [h3] at h
    simp at h
    exact ⟨h.1.1, h.1.2, .inl ⟨rfl, h.2⟩⟩
  | false =>
    rw [h3] at h
    simp at h
    exact ⟨h.1.1, h.1.2, .inr ⟨rfl, h.2.1, h.2.2.1, h.2.2.2⟩⟩
/-- Outside the bounds it answers no. -/
def inB (r : Int) : Bool := decide (-1 ≤ r) && decide (r ≤ 1000)
theorem l01In_r (r : Int) (w : World) : Calls Try.prog 22 #[.int .i64 r, .int .i64 (-1), .int .i64 1000] w fun e w' => e = .returned (.bool (inB r)) ∧ w' = w := l01In_any r (-1) 1000 w
set_option maxRecDepth 100000 in
set_option maxHeartbeats 4000000 in
theorem specPageOK_bounds (lo hi : ByteArray) (r : Int) (vb vc : Value) (w : World) (h : okBounds lo hi r = false) :
    Calls Try.prog 23 #[.agg #[.string lo, .string hi, .int .i64 r, vb, vc]] w fun e w' => e = .returned (.bool false) ∧ Below w.heap.size w w' := by
  have b0 := hide (show Below w.heap.size w (w.alloc (.cells #[.string lo, .string hi, .int .i64 r, vb, vc] 53)) from (Below.refl _ _).alloc (Nat.le_refl _) _)
  rcases bounds_bad h with h1 | ⟨h1, h2⟩ | ⟨h1, h2, h3, h4⟩ | ⟨h1, h2, h3, h4⟩ | ⟨h1, h2, h3, h4⟩ | ⟨h1, h2, h3, h4, h5⟩ | ⟨h1, h2, h3, h4, h5⟩
  · go_enter Try.func23, Try.ntmps23
    go_wp2_with fail
    go_ret
    exact ⟨rfl, unhide b0⟩
  · go_enter Try.func23, Try.ntmps23
    go_wp2_with fail
    go_ret
    exact ⟨rfl, unhide b0⟩
  · have hq : inB r = false := by unfold inB; rw [decide_eq_false (by omega)]; rfl
    go_enter Try.func23, Try.ntmps23
    go_wp2_with (go_at_call 22; refine (l01In_r r _).mono ?_; rintro e w1 ⟨rfl, rfl⟩)
    go_ret
    exact ⟨rfl, unhide b0⟩
  · have hd : decide (r < 0) = false := decide_eq_false (by omega)
    cases hq : inB r
    · go_enter Try.func23, Try.ntmps23
      go_wp2_with (go_at_call 22; refine (l01In_r r _).mono ?_; rintro e w1 ⟨rfl, rfl⟩)
      go_ret
      exact ⟨rfl, unhide b0⟩
    · go_enter Try.func23, Try.ntmps23
      go_wp2_with (go_at_call 22; refine (l01In_r r _).mono ?_; rintro e w1 ⟨rfl, rfl⟩)
      go_ret
      exact ⟨rfl, unhide b0⟩
  · go_enter Try.func23, Try.ntmps23
    go_wp2_with fail
    go_ret
    exact ⟨rfl, unhide b0⟩
  · have hq : inB r = false := by unfold inB; rw [decide_eq_false (show ¬ r ≤ 1000 by omega)]; simp
    go_enter Try.func23, Try.ntmps23
    go_wp2_with (go_at_call 22; refine (l01In_r r _).mono ?_; rintro e w1 ⟨rfl, rfl⟩)
    go_ret
    exact ⟨rfl, unhide b0⟩
  · have hd : decide (r < 0) = true := decide_eq_true (by omega)
    cases hq : inB r
    · go_enter Try.func23, Try.ntmps23
      go_wp2_with (go_at_call 22; refine (l01In_r r _).mono ?_; rintro e w1 ⟨rfl, rfl⟩)
      go_ret
      exact ⟨rfl, unhide b0⟩
    · go_enter Try.func23, Try.ntmps23
      go_wp2_with (go_at_call 22; refine (l01In_r r _).mono ?_; rintro e w1 ⟨rfl, rfl⟩)
      go_ret
      exact ⟨rfl, unhide b0⟩
end Go.Proofs.Ytdajoapbdeplhaa

namespace Go.Proofs.Ytdajoapbdeplhaa
open Go.RowKit

theorem heap_cell2 {w : World} {b : Nat} {cs : Array Value} {t : TypeId} (h : w.heap[b]? = some (.cells cs t (0, 0))) (j : Nat) : w.cell? ⟨b, j, none⟩ = cs[j]? := by simp [World.cell?, h]
theorem okE_cases {lo hi : ByteArray} {es : List EntD} {j : Nat} (hj : j < es.length) (h : okAtE lo hi es j = false) : keyK es[j].k = false ∨ (keyK es[j].k = true ∧ 100 < es[j].v.size) ∨ (keyK es[j].k = true ∧ es[j].v.size ≤ 100 ∧ Op.bytesLess es[j].k.toList lo.toList = true) ∨
    (keyK es[j].k = true ∧ es[j].v.size ≤ 100 ∧ Op.bytesLess es[j].k.toList lo.toList = false ∧ underK es[j].k hi = false) ∨ (keyK es[j].k = true ∧ es[j].v.size ≤ 100 ∧ Op.bytesLess es[j].k.toList lo.toList = false ∧ underK es[j].k hi = true ∧ 0 < j ∧ ∀ h : j - 1 < es.length, Op.bytesLess (es[j - 1]'h).k.toList es[j].k.toList = false) := by
  rw [← follows_at hj] at h
  have hL : lastOK (es.take j) es[j] = (j == 0 || match es[j - 1]? with | some p => ltK p.k es[j].k | none => false) := by
    have := follows_at (lo := lo) (hi := hi) hj
    unfold lastOK
    cases j with
    | zero => simp
    | succ j =>
      rw [takeG_snoc es j (by omega), List.getLast?_append]
      simp [List.getElem?_eq_getElem (show j < es.length by omega)]
  unfold okEnt inK valK ltK at h
  cases h1 : keyK es[j].k with
  | false => exact .inl rfl
  | true =>
    refine .inr ?_
    by_cases h2 : es[j].v.size ≤ 100
    · refine .inr ?_
      cases h3 : Op.bytesLess es[j].k.toList lo.toList with
      | true => exact .inl ⟨rfl, h2, rfl⟩
      | false =>
        refine .inr ?_
        cases h4 : underK es[j].k hi with
        | false => exact .inl ⟨rfl, h2, rfl, rfl⟩
        | true =>
          refine .inr ⟨rfl, h2, rfl, rfl, ?_⟩
          unfold underK ltK at h4
          rw [h1, h3, h4, decide_eq_true h2, hL] at h
          simp only [Bool.not_false, Bool.and_true, Bool.true_and, Bool.or_eq_false_iff, beq_eq_false_iff_ne] at h
          refine ⟨by omega, fun hh => ?_⟩
          have := h.2
          rw [List.getElem?_eq_getElem hh] at this
          exact this
    · exact .inl ⟨rfl, by omega⟩
theorem okE_good {lo hi : ByteArray} {es : List EntD} {j : Nat} (hj : j < es.length) (h : okAtE lo hi es j = true) : keyK es[j].k = true ∧ es[j].v.size ≤ 100 ∧ Op.bytesLess es[j].k.toList lo.toList = false ∧ underK es[j].k hi = true ∧ (∀ (h0 : 0 < j), Op.bytesLess (es[j - 1]'(by omega)).k.toList es[j].k.toList = true) := by
  have h' := h
  unfold okAtE at h
  rw [List.getElem?_eq_getElem hj] at h
  simp only [Bool.and_eq_true] at h
  have h1 := h.1
  unfold okEnt inK valK ltK at h1
  simp only [Bool.and_eq_true, Bool.not_eq_true', decide_eq_true_eq] at h1
  refine ⟨h1.1.1, h1.1.2, h1.2.1, ?_, fun h0 => ?_⟩
  · unfold underK ltK
    exact h1.2.2
  · have h2 := h.2
    rw [List.getElem?_eq_getElem (show j - 1 < es.length by omega)] at h2
    simp only [Bool.or_eq_true, beq_iff_eq] at h2
    rcases h2 with h2 | h2
    · omega
    · exact h2
theorem three_dec {a b n m : Nat} (h1 : a ≤ 40) (h2 : b ≤ 40) (h : ¬ n ≤ 32) : (decide ((40 : Int) < (a : Int)) || decide ((40 : Int) < (b : Int)) || decide ((32 : Int) < (n : Int))) = (decide (32 < n) || decide (12 < m)) := by
  rw [decide_eq_false (show ¬ ((40 : Int) < (a : Int)) by omega), decide_eq_false (show ¬ ((40 : Int) < (b : Int)) by omega), decide_eq_true (show (32 : Int) < (n : Int) by omega), decide_eq_true (show 32 < n by omega)]
  simp
theorem one_dec {n m : Nat} (h : ¬ n ≤ 32) : true = (decide (32 < n) || decide (12 < m)) := by
  rw [decide_eq_true (show 32 < n by omega)]
  simp
theorem four_dec {a b n m : Nat} (h1 : a ≤ 40) (h2 : b ≤ 40) : (decide ((40 : Int) < (a : Int)) || decide ((40 : Int) < (b : Int)) || decide ((32 : Int) < (n : Int)) || decide ((12 : Int) < (m : Int))) = (decide (32 < n) || decide (12 < m)) := by
  rw [decide_eq_false (show ¬ ((40 : Int) < (a : Int)) by omega), decide_eq_false (show ¬ ((40 : Int) < (b : Int)) by omega), show decide ((32 : Int) < (n : Int)) = decide (32 < n) from decide_eq_decide.2 (by omega), show decide ((12 : Int) < (m : Int)) = decide (12 < m) from decide_eq_decide.2 (by omega)]
  simp
set_option maxRecDepth 100000 in
set_option maxHeartbeats 16000000 in
theorem specPageOK_any (lo hi : ByteArray) (r : Int) (ab : Option Addr) (nb cb : Nat) (es : List EntD) (ac : Option Addr) (nc cc : Nat) (ds : List DelD) (w : World) (hE : ERow w ab nb es) (hD : DRow w ac nc ds) (hcb : ab = none → cb = 0) :
    Calls Try.prog 23 #[pgv lo hi r ab nb cb ac nc cc] w fun e w' => e = .returned (.bool (okPage lo hi r es ds)) ∧ Below w.heap.size w w' := by
  have LE := hide hE.1
  have LD := hide hD.1
  have RE := hide hE
  have RD := hide hD
  clear hE hD
  by_cases hB : okBounds lo hi r = true
  · have HB := hide hB
    have b0 : Below w.heap.size w (w.alloc (.cells #[.string lo, .string hi, .int .i64 r, .slice ab nb cb, .slice ac nc cc] 53)) := (Below.refl _ _).alloc (Nat.le_refl _) _
    have k0 := hide (heap_alloc_new w (.cells #[.string lo, .string hi, .int .i64 r, .slice ab nb cb, .slice ac nc cc] 53))
    go_enter Try.func23, Try.ntmps23
    go_upto_region 1 with fail
    go_cut [55] (fun c wc => ∃ b, c = .bool b ∧ Hid (b = (decide (32 < nb) || decide (12 < nc))) ∧ wc = w.alloc (.cells #[.string lo, .string hi, .int .i64 r, .slice ab nb cb, .slice ac nc cc] 53))
    case first =>
      obtain ⟨h1, h2, h3⟩ := bounds_good hB
      have hq : inB r = true := by unfold inB; rw [decide_eq_true (by omega), decide_eq_true (by omega)]; rfl
      clear hB
      rcases h3 with ⟨h3, h4⟩ | ⟨h3, h4, h5, h6⟩
      · have hd : decide (r < 0) = true := decide_eq_true (by omega)
        have h4' : r < 0 := by omega
        clear h4
        by_cases g1 : nb ≤ 32
        · go_wp2_with (go_at_call 22; refine (l01In_r r _).mono ?_; rintro e w1 ⟨rfl, rfl⟩)
          all_goals go_meet
          all_goals exact ⟨_, rfl, by first | exact four_dec h1 h2 | exact three_dec h1 h2 g1 | exact one_dec g1 | trace_state, rfl⟩
        · go_wp2_with (go_at_call 22; refine (l01In_r r _).mono ?_; rintro e w1 ⟨rfl, rfl⟩)
          all_goals go_meet
          all_goals exact ⟨_, rfl, by first | exact four_dec h1 h2 | exact three_dec h1 h2 g1 | exact one_dec g1 | trace_state, rfl⟩
      · have hd : decide (r < 0) = false := decide_eq_false (by omega)
        by_cases g1 : nb ≤ 32
        · go_wp2_with (go_at_call 22; refine (l01In_r r _).mono ?_; rintro e w1 ⟨rfl, rfl⟩)
          all_goals go_meet
          all_goals exact ⟨_, rfl, by first | exact four_dec h1 h2 | exact three_dec h1 h2 g1 | exact one_dec g1 | trace_state, rfl⟩
        · go_wp2_with (go_at_call 22; refine (l01In_r r _).mono ?_; rintro e w1 ⟨rfl, rfl⟩)
          all_goals go_meet
          all_goals exact ⟨_, rfl, by first | exact four_dec h1 h2 | exact three_dec h1 h2 g1 | exact one_dec g1 | trace_state, rfl⟩
    case rest =>
      obtain ⟨b, rfl, hb, rfl⟩ := hcut
      clear hB
      cases b with
      | true =>
        have OF := hide (show okPage lo hi r es ds = false by
          have := unhide hb
          by_cases h4 : nb ≤ 32
          · refine ok_ds ?_
            rw [unhide LD]
            rw [decide_eq_false (show ¬ 32 < nb by omega)] at this
            simp at this
            omega
          · exact ok_es (by rw [unhide LE]; exact h4))
        go_wp2_with fail
        go_ret
        exact ⟨ret_bool (unhide OF).symm, b0⟩
      | false =>
        have h45 : nb ≤ 32 ∧ nc ≤ 12 := by have := unhide hb; simp at this; omega
        obtain ⟨h4, h5⟩ := h45
        clear hb
        have B0 := hide b0
        have z0 : (w.alloc (.cells #[.string lo, .string hi, .int .i64 r, .slice ab nb cb, .slice ac nc cc] 53)).heap.size = w.heap.size + 1 := by simp
        clear b0
        go_wp2_with fail
        generalize w.alloc (.cells #[.string lo, .string hi, .int .i64 r, .slice ab nb cb, .slice ac nc cc] 53) = W0 at *
        go_loopw [3] (fun i wr => ∃ (j : Nat), i = .int .i64 (j : Int) ∧ j ≤ nb ∧ Hid (∀ i, i < j → okAtE lo hi es i = true) ∧ Hid (Below (w.heap.size + 1) W0 wr)) (fun i _ => nb - (intOf i).toNat)
        case atStart => exact ⟨0, rfl, Nat.zero_le _, fun i h => absurd h (Nat.not_lt_zero _), Below.refl _ _⟩
        case round =>
          obtain ⟨j, rfl, hj, hK, hB⟩ := hrel
          have kr := hide (((unhide hB).block w.heap.size (by omega)).trans (unhide k0))
          have BW := hide ((unhide B0).trans ((unhide hB).mono (by omega)))
          have p0 : wr.cell? ⟨w.heap.size, 0, none⟩ = some (.string lo) := heap_cell2 (unhide kr) 0
          have p1 : wr.cell? ⟨w.heap.size, 1, none⟩ = some (.string hi) := heap_cell2 (unhide kr) 1
          have p3 : wr.cell? ⟨w.heap.size, 3, none⟩ = some (.slice ab nb cb) := heap_cell2 (unhide kr) 3
          have hsr : w.heap.size + 1 ≤ wr.heap.size := by have := (unhide hB).size; omega
          by_cases hlt : j < nb
          · have hje : j < es.length := by have := unhide LE; omega
            obtain ⟨b, off, rfl, c0, c1⟩ := ((unhide RE).below (unhide BW)).2 j hje
            have bA : Below wr.heap.size wr (wr.alloc (.cells #[.string es[j].k, .string es[j].v] 79)) := (Below.refl _ _).alloc (Nat.le_refl _) _
            have BA := hide ((unhide BW).trans (bA.mono (unhide BW).size))
            have BX := hide ((unhide hB).trans (bA.mono hsr))
            have q0 := (bA.cell (p := ⟨w.heap.size, 0, none⟩) (by show w.heap.size < _; omega)).trans p0
            have q1 := (bA.cell (p := ⟨w.heap.size, 1, none⟩) (by show w.heap.size < _; omega)).trans p1
            have q3 := (bA.cell (p := ⟨w.heap.size, 3, none⟩) (by show w.heap.size < _; omega)).trans p3
            by_cases hok : okAtE lo hi es j = true
            · obtain ⟨f1, f2, f3, f4, f5⟩ := okE_good hje hok
              have HOK := hide hok
              have F5 := hide f5
              clear hok f5
              by_cases hj0 : 0 < j
              · have hjp : j - 1 < es.length := by omega
                have f6 := unhide F5 hj0
                obtain ⟨b', off', he, x0, x1⟩ := (((unhide RE).below (unhide BW)).below bA).2 (j - 1) hjp
                injection he with he
                injection he with he1 he2
                subst he1 he2
                have hi1 : ((j : Int) - 1).toNat = j - 1 := by omega
                have hd1 : decide (0 < j) = true := decide_eq_true hj0
                have hd2 : decide ((0 : Int) < (j : Int)) = true := decide_eq_true (by omega)
                have hi2 : (0 : Int) ≤ (j : Int) - 1 := by omega
                have hi3 : (j : Int) - 1 < (nb : Int) := by omega
                clear bA F5
                generalize es[j - 1] = ep at *
                generalize es[j] = em at *
                first | (have fv : decide ((100 : Int) < (em.v.size : Int)) = false := decide_eq_false (by omega)) | (have fv : decide ((100 : Int) < (em.v.size : Int)) = true := decide_eq_true (by omega)) | skip
                go_wp2_with fail
                go_quiet ((first | (go_at_call 33; exact Calls.quiet_of_same (l04Key_any _ _)) | (go_at_call 49; exact Calls.quiet_of_same (l04Under_any _ _ _))))
                go_wp2_with fail
                go_roundw
                case rel => exact ⟨j + 1, by go_num, by omega, fun i hi' => by
                  rcases Nat.lt_or_ge i j with h | h
                  · exact unhide hK i h
                  · obtain rfl : i = j := by omega
                    exact unhide HOK, bel_drewN (unhide BX) _⟩
                case measure => simp [intOf]; omega
              · clear F5 bA
                have hd1 : decide (0 < j) = false := decide_eq_false hj0
                have hd2 : decide ((0 : Int) < (j : Int)) = false := decide_eq_false (by omega)
                generalize es[j] = em at *
                first | (have fv : decide ((100 : Int) < (em.v.size : Int)) = false := decide_eq_false (by omega)) | (have fv : decide ((100 : Int) < (em.v.size : Int)) = true := decide_eq_true (by omega)) | skip
                go_wp2_with fail
                go_quiet ((first | (go_at_call 33; exact Calls.quiet_of_same (l04Key_any _ _)) | (go_at_call 49; exact Calls.quiet_of_same (l04Under_any _ _ _))))
                go_wp2_with fail
                go_roundw
                case rel => exact ⟨j + 1, by go_num, by omega, fun i hi' => by
                  rcases Nat.lt_or_ge i j with h | h
                  · exact unhide hK i h
                  · obtain rfl : i = j := by omega
                    exact unhide HOK, bel_drewN (unhide BX) _⟩
                case measure => simp [intOf]; omega
            · have hok : okAtE lo hi es j = false := by simpa using hok
              have OF := hide (ok_base (r := r) (ds := ds) hje hok)
              rcases okE_cases hje hok with f1 | ⟨f1, f2⟩ | ⟨f1, f2, f3⟩ | ⟨f1, f2, f3, f4⟩ | ⟨f1, f2, f3, f4, hj0, f5⟩
              · clear hok bA
                generalize es[j] = em at *
                first | (have fv : decide ((100 : Int) < (em.v.size : Int)) = false := decide_eq_false (by omega)) | (have fv : decide ((100 : Int) < (em.v.size : Int)) = true := decide_eq_true (by omega)) | skip
                go_wp2_with fail
                go_quiet ((first | (go_at_call 33; exact Calls.quiet_of_same (l04Key_any _ _)) | (go_at_call 49; exact Calls.quiet_of_same (l04Under_any _ _ _))))
                go_wp2_with fail
                go_ret
                exact ⟨ret_bool (unhide OF).symm, bel_drewN (unhide BA) _⟩
              · clear hok bA
                generalize es[j] = em at *
                first | (have fv : decide ((100 : Int) < (em.v.size : Int)) = false := decide_eq_false (by omega)) | (have fv : decide ((100 : Int) < (em.v.size : Int)) = true := decide_eq_true (by omega)) | skip
                go_wp2_with fail
                go_quiet ((first | (go_at_call 33; exact Calls.quiet_of_same (l04Key_any _ _)) | (go_at_call 49; exact Calls.quiet_of_same (l04Under_any _ _ _))))
                go_wp2_with fail
                go_ret
                exact ⟨ret_bool (unhide OF).symm, bel_drewN (unhide BA) _⟩
              · clear hok bA
                generalize es[j] = em at *
                first | (have fv : decide ((100 : Int) < (em.v.size : Int)) = false := decide_eq_false (by omega)) | (have fv : decide ((100 : Int) < (em.v.size : Int)) = true := decide_eq_true (by omega)) | skip
                go_wp2_with fail
                go_quiet ((first | (go_at_call 33; exact Calls.quiet_of_same (l04Key_any _ _)) | (go_at_call 49; exact Calls.quiet_of_same (l04Under_any _ _ _))))
                go_wp2_with fail
                go_ret
                exact ⟨ret_bool (unhide OF).symm, bel_drewN (unhide BA) _⟩
              · clear hok bA
                generalize es[j] = em at *
                first | (have fv : decide ((100 : Int) < (em.v.size : Int)) = false := decide_eq_false (by omega)) | (have fv : decide ((100 : Int) < (em.v.size : Int)) = true := decide_eq_true (by omega)) | skip
                go_wp2_with fail
                go_quiet ((first | (go_at_call 33; exact Calls.quiet_of_same (l04Key_any _ _)) | (go_at_call 49; exact Calls.quiet_of_same (l04Under_any _ _ _))))
                go_wp2_with fail
                go_ret
                exact ⟨ret_bool (unhide OF).symm, bel_drewN (unhide BA) _⟩
              · have hjp : j - 1 < es.length := by omega
                have f6 := f5 hjp
                clear f5 hok
                obtain ⟨b', off', he, x0, x1⟩ := (((unhide RE).below (unhide BW)).below bA).2 (j - 1) hjp
                injection he with he
                injection he with he1 he2
                subst he1 he2
                have hi1 : ((j : Int) - 1).toNat = j - 1 := by omega
                have hd1 : decide (0 < j) = true := decide_eq_true hj0
                have hd2 : decide ((0 : Int) < (j : Int)) = true := decide_eq_true (by omega)
                have hi2 : (0 : Int) ≤ (j : Int) - 1 := by omega
                have hi3 : (j : Int) - 1 < (nb : Int) := by omega
                clear bA
                generalize es[j - 1] = ep at *
                generalize es[j] = em at *
                first | (have fv : decide ((100 : Int) < (em.v.size : Int)) = false := decide_eq_false (by omega)) | (have fv : decide ((100 : Int) < (em.v.size : Int)) = true := decide_eq_true (by omega)) | skip
                go_wp2_with fail
                go_quiet ((first | (go_at_call 33; exact Calls.quiet_of_same (l04Key_any _ _)) | (go_at_call 49; exact Calls.quiet_of_same (l04Under_any _ _ _))))
                go_wp2_with fail
                go_ret
                exact ⟨ret_bool (unhide OF).symm, bel_drewN (unhide BA) _⟩
          · obtain rfl : j = nb := by omega
            have K1 := hide (show ∀ i, i < es.length → okAtE lo hi es i = true from fun i hi' => unhide hK i (by rw [← unhide LE]; exact hi'))
            go_wp2_with fail
            clear hK p0 p1 p3
            have P0 := hide kr
            have HH0 := hide (show highE hi (ds.take 0) = hi by rfl)
            obtain ⟨wv, hwv⟩ : ∃ wv : World, wv = wr := ⟨_, rfl⟩
            rw [← hwv] at kr hB BW hsr ⊢
            clear hwv P0
            go_loopw [5, 6] (fun h i wz => ∃ (q : Nat), i = .int .i64 (q : Int) ∧ h = .string (highE hi (ds.take q)) ∧ q ≤ nc ∧ Hid (∀ i, i < q → okAtD lo hi ds i = true) ∧ Hid (Below (w.heap.size + 1) W0 wz)) (fun _ i _ => nc - (intOf i).toNat)
            case atStart => exact ⟨0, rfl, rfl, Nat.zero_le _, fun i h => absurd h (Nat.not_lt_zero _), unhide hB⟩
            case round =>
              clear hB BW hsr kr
              obtain ⟨q, rfl, rfl, hq, hK, hB⟩ := hrel
              have kr := hide (((unhide hB).block w.heap.size (by omega)).trans (unhide k0))
              have BW := hide ((unhide B0).trans ((unhide hB).mono (by omega)))
              have hsr : w.heap.size + 1 ≤ wr.heap.size := by have := (unhide hB).size; omega
              by_cases hlt : q < nc
              · have hqe : q < ds.length := by have := unhide LD; omega
                have p0 : wr.cell? ⟨w.heap.size, 0, none⟩ = some (.string lo) := heap_cell2 (unhide kr) 0
                have p4 : wr.cell? ⟨w.heap.size, 4, none⟩ = some (.slice ac nc cc) := heap_cell2 (unhide kr) 4
                obtain ⟨b, off, rfl, c0, c1, c2, c3⟩ := ((unhide RD).below (unhide BW)).2 q hqe
                have OA := hide (okAtD_at (lo := lo) (hi := hi) hqe)
                have HH := hide ((congrArg (highE hi) (takeG_snoc ds q hqe)).trans (highE_snoc hi (ds.take q) ds[q]))
                have OF := hide (fun (h : okAtD lo hi ds q = false) => ok_chain (r := r) (es := es) hqe h)
                have RD2 := hide ((unhide RD).below (unhide BW))
                have DC := hide (show ∀ w', Below wr.heap.size wr w' → w'.cell? ⟨b, off + q * 4, none⟩ = some (.int .i64 ds[q].kind) ∧ w'.cell? ⟨b, off + q * 4 + 1, none⟩ = some (.string ds[q].k) from fun w' hw' => ⟨(hw'.cell (p := ⟨b, off + q * 4, none⟩) (cell_lt c0)).trans c0, (hw'.cell (p := ⟨b, off + q * 4 + 1, none⟩) (cell_lt c1)).trans c1⟩)
                generalize ds[q] = d at *
                generalize highE hi (ds.take q) = h1 at *
                go_wp2_with fail
                go_region_with (go_at_call 50; refine (l04Delta_any d lo h1 _).mono ?_; rintro e w3 ⟨rfl, hb3⟩)
                all_goals
                  replace hb3 : Below wr.heap.size wr w3 := by first | exact hb3 | exact bel_of_drew hb3 | exact bel_of_drewN hb3
                  obtain ⟨x0, x1⟩ := unhide DC w3 hb3
                  have y4 := (hb3.cell (p := ⟨w.heap.size, 4, none⟩) (by show w.heap.size < _; omega)).trans p4
                  have B3 := hide ((unhide hB).trans (hb3.mono hsr))
                  have BW3 := hide ((unhide BW).trans (hb3.mono (unhide BW).size))
                  clear hb3 p0 p4 c0 c1 c2 c3
                  by_cases hok : okDel lo h1 d = true
                  · rw [hok]
                    have HOK := hide ((unhide OA).trans hok)
                    by_cases hk : d.kind = 3
                    · have hk' : (d.kind == 3) = true := by simp [hk]
                      have HK := hide hk
                      clear hk
                      go_wp2_with fail
                      go_roundw
                      case rel => exact ⟨q + 1, by go_num, by rw [unhide HH, if_pos (unhide HK)], by omega, fun i hi' => by
                        rcases Nat.lt_or_ge i q with h | h
                        · exact unhide hK i h
                        · obtain rfl : i = q := by omega
                          exact unhide HOK, unhide B3⟩
                      case measure => simp [intOf]; omega
                    · have hk' : (d.kind == 3) = false := by simp [hk]
                      have HK := hide hk
                      clear hk
                      go_wp2_with fail
                      go_roundw
                      case rel => exact ⟨q + 1, by go_num, by rw [unhide HH, if_neg (unhide HK)], by omega, fun i hi' => by
                        rcases Nat.lt_or_ge i q with h | h
                        · exact unhide hK i h
                        · obtain rfl : i = q := by omega
                          exact unhide HOK, unhide B3⟩
                      case measure => simp [intOf]; omega
                  · have hok : okDel lo h1 d = false := by simpa using hok
                    rw [hok]
                    have OF2 := hide (unhide OF ((unhide OA).trans hok))
                    go_wp2_with fail
                    go_ret
                    exact ⟨ret_bool (unhide OF2).symm, unhide BW3⟩
              · obtain rfl : q = nc := by omega
                have K2 := hide (show ∀ i, i < ds.length → okAtD lo hi ds i = true from fun i hi' => unhide hK i (by rw [← unhide LD]; exact hi'))
                have p0 : wr.cell? ⟨w.heap.size, 0, none⟩ = some (.string lo) := heap_cell2 (unhide kr) 0
                have p1 : wr.cell? ⟨w.heap.size, 1, none⟩ = some (.string hi) := heap_cell2 (unhide kr) 1
                have p2 : wr.cell? ⟨w.heap.size, 2, none⟩ = some (.int .i64 r) := heap_cell2 (unhide kr) 2
                have p3 : wr.cell? ⟨w.heap.size, 3, none⟩ = some (.slice ab j cb) := heap_cell2 (unhide kr) 3
                have p4 : wr.cell? ⟨w.heap.size, 4, none⟩ = some (.slice ac q cc) := heap_cell2 (unhide kr) 4
                have OO := hide (ok_all (unhide HB) (by rw [unhide LE]; exact h4) (by rw [unhide LD]; exact h5) (unhide K1) (unhide K2))
                go_wp2_with fail
                refine (l04Entries_any lo hi r ab j cb es ac q cc ds wr ((unhide RE).below (unhide BW)) ((unhide RD).below (unhide BW)) (by omega) (by omega) hcb).mono ?_
                rintro x w5 ⟨g5, cap5, rfl, _, hb5⟩
                have BW5 := hide ((unhide BW).trans (hb5.mono (unhide BW).size))
                clear hb5
                go_wp2_with fail
                go_ret
                exact ⟨ret_bool (by rw [unhide OO]; exact decide_eq_decide.2 (by omega)), unhide BW5⟩
  · have hB : okBounds lo hi r = false := by simpa using hB
    rw [ok_bounds hB]
    exact specPageOK_bounds lo hi r _ _ w hB
end Go.Proofs.Ytdajoapbdeplhaa

namespace Go.Proofs.Ytdajoapbdeplhaa
open Go.RowKit

theorem manyT_pos {ps : List (Option PageD)} {x : Int} {p : PageD} (h : getP ps x = some p) : 0 < manyT ps := by
  unfold manyT
  exact List.countP_pos_iff.2 ⟨_, getP_mem h, rfl⟩
/-- The first Ref is that of page 0 alone. -/
def zeroRef (idx : List RefD) : Bool := match idx[0]? with
  | some x => x.low.toList.isEmpty && decide (x.id = 0)
  | none => false
theorem okT_spec {hs : List PpH} {gs : List Bool} {idx : List RefD} (h : 1 ≤ hs.length ∧ hs.length ≤ 30 ∧ gs.length = hs.length ∧ idx.length ≤ hs.length) (hp : ∀ i (h1 : i < hs.length) (h2 : i < gs.length), pgOK hs[i].X gs[i] = true) (hi : okIdx (trd hs gs idx).here idx = true) (h0 : 0 < idx.length) : okT (trd hs gs idx) = (zeroRef idx && goT (trd hs gs idx).here (manyT (trd hs gs idx).here) 0 ⟨#[]⟩) := by
  rw [okT_rest h hp, hi, Bool.and_true, Bool.and_comm]
  have r0 : okRef (trd hs gs idx).here idx 0 = true := by
    unfold okIdx at hi
    rw [List.all_eq_true] at hi
    exact hi 0 (List.mem_range.2 h0)
  have e0 := List.getElem?_eq_getElem h0
  unfold zeroIdx zeroRef
  unfold okRef at r0
  rw [e0] at r0
  rw [e0]
  generalize idx[0] = x at *
  simp only [Bool.and_eq_true] at r0
  have r0 := r0.1
  simp only
  cases hid : decide (x.id = 0) with
  | false => simp
  | true =>
    have hid := of_decide_eq_true hid
    rw [hid] at r0
    cases hg : getP (trd hs gs idx).here 0 with
    | none => rw [hg] at r0; cases r0
    | some p =>
      rw [hg] at r0
      have r0 := of_decide_eq_true r0
      have hm := manyT_pos hg
      cases he : x.low.toList.isEmpty with
      | true => simp
      | false =>
        obtain ⟨m, hm2⟩ : ∃ m, manyT (trd hs gs idx).here = m + 1 := ⟨manyT (trd hs gs idx).here - 1, by omega⟩
        rw [hm2, goT_other hg (fun e => by
          rw [← r0, e, ByteArray.toList_eq] at he
          cases he)]
        rfl
theorem okT_idx {hs : List PpH} {gs : List Bool} {idx : List RefD} (hi : okIdx (trd hs gs idx).here idx = false) : okT (trd hs gs idx) = false := by
  unfold okT
  show (((_ && okIdx (trd hs gs idx).here idx) && _) && _) = false
  rw [hi]
  simp
theorem okT_none {hs : List PpH} {gs : List Bool} {idx : List RefD} (h : idx.length = 0) : okT (trd hs gs idx) = false := by
  unfold okT trd
  simp only
  rw [decide_eq_false (fun e => by have := e.2.2.2.1; omega)]
  rfl
theorem pgOK_parts (p : PageD) (g : Bool) : pgOK p g = (okP p && (!g || noP p)) := by
  cases g with
  | false => show okP p = _; simp
  | true =>
    show noP p = _
    cases h : noP p with
    | true => rw [noP_ok h]; rfl
    | false => simp
theorem pgOK_chain {p : PageD} {g : Bool} (h : pgOK p g = true) : p.ds.length ≤ 100000 := by
  rw [pgOK_parts, Bool.and_eq_true] at h
  have h := h.1
  unfold okP okPage at h
  simp only [Bool.and_eq_true, decide_eq_true_eq] at h
  omega
set_option maxRecDepth 100000 in
set_option maxHeartbeats 4000000 in
theorem specTreeOK_any (ap : Option Addr) (np cp : Nat) (ag : Option Addr) (ng cg : Nat) (ai : Option Addr) (ni ci : Nat) (hs : List PpH) (gs : List Bool) (idx : List RefD) (w : World) (hT : TrIn w ap np cp ag ng cg ai ni hs gs idx) (hcb : ∀ h ∈ hs, h.s0.a = none → h.s0.c = 0) :
    Calls Try.prog 7 #[.agg #[.slice ap np cp, .slice ag ng cg, .slice ai ni ci]] w fun e w' => e = .returned (.bool (okT (trd hs gs idx))) ∧ Below w.heap.size w w' := by
  have b0 : ∀ o, Below w.heap.size w (w.alloc o) := fun o => (Below.refl _ _).alloc (Nat.le_refl _) _
  have lp := hT.plen
  have lg := hT.glen
  have li := hT.ix.1
  have BW := hide (b0 (.cells #[.slice ap np cp, .slice ag ng cg, .slice ai ni ci] 32))
  have BT := hide (show ∀ u, Below (w.alloc (.cells #[.slice ap np cp, .slice ag ng cg, .slice ai ni ci] 32)).heap.size (w.alloc (.cells #[.slice ap np cp, .slice ag ng cg, .slice ai ni ci] 32)) u → Below w.heap.size w u from fun u hu => (unhide BW).trans (hu.mono (unhide BW).size))
  have t0 : (w.alloc (.cells #[.slice ap np cp, .slice ag ng cg, .slice ai ni ci] 32)).cell? ⟨w.heap.size, 0, none⟩ = some (.slice ap np cp) := by simp
  have t1 : (w.alloc (.cells #[.slice ap np cp, .slice ag ng cg, .slice ai ni ci] 32)).cell? ⟨w.heap.size, 1, none⟩ = some (.slice ag ng cg) := by simp
  have t2 : (w.alloc (.cells #[.slice ap np cp, .slice ag ng cg, .slice ai ni ci] 32)).cell? ⟨w.heap.size, 2, none⟩ = some (.slice ai ni ci) := by simp
  by_cases h1 : ¬ (1 ≤ np ∧ np ≤ 30)
  · have Z := hide (show false = okT (trd hs gs idx) from (okT_size (hs := hs) (gs := gs) (idx := idx) fun e => by omega).symm)
    have HI := hide (fun W => l01In_any (np : Int) 1 30 W)
    rw [show (decide ((1 : Int) ≤ (np : Int)) && decide ((np : Int) ≤ 30)) = false by simp; omega] at HI

    clear hT t0 t1 t2 BT
    go_enter Try.func7, Try.ntmps7
    go_wp2_with fail
    refine (unhide HI _).mono ?_
    rintro e w2 ⟨rfl, hw2⟩
    subst w2
    clear HI
    go_wp2_with fail
    go_ret
    exact ⟨ret_bool (unhide Z), b0 _⟩
  by_cases h3 : ng ≠ np
  · have Z := hide (show false = okT (trd hs gs idx) from (okT_size (hs := hs) (gs := gs) (idx := idx) fun e => by omega).symm)
    have HI := hide (fun W => l01In_any (np : Int) 1 30 W)
    rw [show (decide ((1 : Int) ≤ (np : Int)) && decide ((np : Int) ≤ 30)) = true by simp; omega] at HI
    have h3 : ((ng : Int) != (np : Int)) = true := by simp; omega
    clear hT t0 t1 t2 BT
    go_enter Try.func7, Try.ntmps7
    go_wp2_with fail
    refine (unhide HI _).mono ?_
    rintro e w2 ⟨rfl, hw2⟩
    subst w2
    clear HI
    go_wp2_with fail
    go_ret
    exact ⟨ret_bool (unhide Z), b0 _⟩
  by_cases h4 : ni = 0
  · have Z := hide (show false = okT (trd hs gs idx) from (okT_none (hs := hs) (gs := gs) (idx := idx) (by omega)).symm)
    have HI := hide (fun W => l01In_any (np : Int) 1 30 W)
    rw [show (decide ((1 : Int) ≤ (np : Int)) && decide ((np : Int) ≤ 30)) = true by simp; omega] at HI
    have h3 : ((ng : Int) != (np : Int)) = false := by simp; omega
    subst h4
    clear hT t0 t1 t2 BT
    go_enter Try.func7, Try.ntmps7
    go_wp2_with fail
    refine (unhide HI _).mono ?_
    rintro e w2 ⟨rfl, hw2⟩
    subst w2
    clear HI
    go_wp2_with fail
    go_ret
    exact ⟨ret_bool (unhide Z), b0 _⟩
  by_cases h5 : np < ni
  · have Z := hide (show false = okT (trd hs gs idx) from (okT_size (hs := hs) (gs := gs) (idx := idx) fun e => by omega).symm)
    have HI := hide (fun W => l01In_any (np : Int) 1 30 W)
    rw [show (decide ((1 : Int) ≤ (np : Int)) && decide ((np : Int) ≤ 30)) = true by simp; omega] at HI
    have h3 : ((ng : Int) != (np : Int)) = false := by simp; omega
    have h4 : ((ni : Int) == 0) = false := by simp; omega
    clear hT t0 t1 t2 BT
    go_enter Try.func7, Try.ntmps7
    go_wp2_with fail
    refine (unhide HI _).mono ?_
    rintro e w2 ⟨rfl, hw2⟩
    subst w2
    clear HI
    go_wp2_with fail
    go_ret
    exact ⟨ret_bool (unhide Z), b0 _⟩
  obtain rfl : ng = np := by omega
  have hsz : 1 ≤ hs.length ∧ hs.length ≤ 30 ∧ gs.length = hs.length ∧ idx.length ≤ hs.length := ⟨by omega, by omega, by omega, by omega⟩
  have T := hide (hT.below (unhide BW))
  have HI := hide (fun W => l01In_any (ng : Int) 1 30 W)
  rw [show (decide ((1 : Int) ≤ (ng : Int)) && decide ((ng : Int) ≤ 30)) = true by simp; omega] at HI
  have j4 : ((ni : Int) == 0) = false := by simp; omega
  clear hT BW
  go_enter Try.func7, Try.ntmps7
  go_wp2_with fail
  refine (unhide HI _).mono ?_
  rintro e w2 ⟨rfl, hw2⟩
  subst w2
  clear HI
  go_wp2_with fail
  generalize w.alloc (.cells #[.slice ap ng cp, .slice ag ng cg, .slice ai ni ci] 32) = W at *
  go_loopw [4] (fun i wr => ∃ k : Nat, k ≤ ng ∧ i = .int .i64 k ∧ Hid (∀ i (_ : i < k) (h1 : i < hs.length) (h2 : i < gs.length), pgOK hs[i].X gs[i] = true) ∧ Below W.heap.size W wr) (fun i _ => ng - (intOf i).toNat)
  case atStart => exact ⟨0, by omega, rfl, (fun i hi => absurd hi (Nat.not_lt_zero _)), Below.refl _ _⟩
  case round =>
    obtain ⟨k, hk, rfl, hok, hb⟩ := hrel
    have s0 := (hb.cell (p := ⟨w.heap.size, 0, none⟩) (cell_lt t0)).trans t0
    have s1 := (hb.cell (p := ⟨w.heap.size, 1, none⟩) (cell_lt t1)).trans t1
    have s2 := (hb.cell (p := ⟨w.heap.size, 2, none⟩) (cell_lt t2)).trans t2
    have bR := hide (unhide BT _ hb)
    by_cases hlt : k < ng
    case neg =>
      obtain rfl : k = ng := by omega
      have OKP := hide (fun i h1 h2 => unhide hok i (by omega) h1 h2)
      have CH := hide (show ∀ h ∈ hs, h.s1.n ≤ 100000 from fun h hh => by
        obtain ⟨i, hi, e⟩ := List.getElem_of_mem hh
        have h1 := pgOK_chain (unhide OKP i hi (by omega))
        have h2 := (PpIn.sub (unhide T).pgs hi).2
        rw [← e, rowC_len h2]
        exact h1)
      have REST := hide (fun hi => okT_spec hsz (unhide OKP) hi (by omega))
      have HW := hide (fun u hu => l05Whole_any ap k cp ag cg ai ni ci hs gs idx u ((unhide T).below hu) (by omega) (unhide CH))
      clear hok OKP CH s0 s1 s2 bR
      go_wp2_with fail
      go_loopw [5] (fun i wr => ∃ j : Nat, j ≤ ni ∧ i = .int .i64 j ∧ Hid (∀ i, i < j → okRef (trd hs gs idx).here idx i = true) ∧ Below W.heap.size W wr) (fun i _ => ni - (intOf i).toNat)
      case atStart => exact ⟨0, by omega, rfl, (fun i hi => absurd hi (Nat.not_lt_zero _)), hb⟩
      case round =>
        clear hb
        obtain ⟨j, hj, rfl, hok, hb⟩ := hrel
        have s0 := (hb.cell (p := ⟨w.heap.size, 0, none⟩) (cell_lt t0)).trans t0
        have s1 := (hb.cell (p := ⟨w.heap.size, 1, none⟩) (cell_lt t1)).trans t1
        have s2 := (hb.cell (p := ⟨w.heap.size, 2, none⟩) (cell_lt t2)).trans t2
        have bR := hide (unhide BT _ hb)
        by_cases hlt2 : j < ni
        case neg =>
          obtain rfl : j = ni := by omega
          have R := hide (unhide REST (okIdx_true fun i hi => unhide hok i (by omega)))
          have h0 : 0 < idx.length := by omega
          obtain ⟨b, off, hai, d0, d1⟩ := ((unhide T).below hb).ix.2 0 h0
          subst hai
          rw [Nat.zero_mul] at d0 d1
          simp only [Nat.add_zero] at d0 d1
          have Z := hide (show zeroRef idx = (idx[0].low.toList.isEmpty && decide (idx[0].id = 0)) by unfold zeroRef; rw [List.getElem?_eq_getElem h0])
          have HW2 := hide (unhide HW wr hb)
          clear hok HW REST
          generalize idx[0] = x at *
          obtain ⟨low, id⟩ := x
          simp only at d0 d1 Z
          generalize goT (trd hs gs idx).here (manyT (trd hs gs idx).here) 0 ⟨#[]⟩ = GG at *
          by_cases hz : low = ⟨#[]⟩ ∧ id = 0
          · obtain ⟨rfl, rfl⟩ := hz
            have R2 := hide (show GG = okT (trd hs gs idx) by rw [unhide R, unhide Z, ByteArray.toList_eq]; rfl)
            go_wp2_with fail
            refine (unhide HW2).mono ?_
            rintro e w3 ⟨rfl, hb3⟩
            have bB := hide (unhide BT _ (hb.trans (hb3.mono hb.size)))
            clear HW2 d0 d1 s0 s1 s2
            go_wp2_with fail
            go_ret
            exact ⟨ret_bool (unhide R2), unhide bB⟩
          · have R2 := hide (show false = okT (trd hs gs idx) by
              rw [unhide R, unhide Z]
              cases he : low.toList.isEmpty with
              | false => rfl
              | true =>
                rw [decide_eq_false (fun e => hz ⟨by
                  rw [List.isEmpty_iff] at he
                  exact toList_inj (by rw [he, ByteArray.toList_eq]), e⟩)]
                rfl)
            clear R Z HW2
            by_cases hl : low.toList = []
            · have hid : ¬ id = 0 := fun e => hz ⟨toList_inj (by rw [hl, ByteArray.toList_eq]), e⟩
              clear hz
              go_wp2_with fail
              go_ret
              exact ⟨ret_bool (unhide R2), unhide bR⟩
            · clear hz
              go_wp2_with fail
              go_ret
              exact ⟨ret_bool (unhide R2), unhide bR⟩
        have hk2 : j < idx.length := by omega
        obtain ⟨b, off, hai, d0, d1⟩ := ((unhide T).below hb).ix.2 j hk2
        subst hai
        have B1 := hide (hb.alloc hb.size (.cells #[.string idx[j].low, .int .i64 idx[j].id] 55))
        have KN := hide (fun h => okRef_none (ps := (trd hs gs idx).here) hk2 h)
        have KO := hide (fun p h => okRef_other (ps := (trd hs gs idx).here) hk2 (p := p) h)
        have KH := hide (fun p h => okRef_here (ps := (trd hs gs idx).here) hk2 (p := p) h)
        have KT := hide (fun h => okRef_turn (ps := (trd hs gs idx).here) hk2 h)
        have IXF := hide (fun h => (okT_idx (okIdx_false (ps := (trd hs gs idx).here) hk2 h)).symm)
        have PRE := hide (fun (h : 0 < j) (u : World) (hb : Below W.heap.size W u) => ((unhide T).below hb).ix.2 (j - 1) (by omega))
        have ST := hide (show okRef (trd hs gs idx).here idx j = true → ∀ i, i < j + 1 → okRef (trd hs gs idx).here idx i = true from fun h i hi => by
          by_cases e : i < j
          · exact unhide hok i e
          · obtain rfl : i = j := by omega
            exact h)
        clear hok
        generalize hrk : idx[j] = rk at *
        obtain ⟨low, id⟩ := rk
        simp only at d0 d1 B1 KN KO KH KT
        go_upto_region 13 with fail
        clear d0 d1
        have y0 : (wr.alloc (.cells #[.string low, .int .i64 id] 55)).cell? ⟨wr.heap.size, 0, none⟩ = some (.string low) := by simp
        have y1 : (wr.alloc (.cells #[.string low, .int .i64 id] 55)).cell? ⟨wr.heap.size, 1, none⟩ = some (.int .i64 id) := by simp
        generalize wr.alloc (.cells #[.string low, .int .i64 id] 55) = V at *
        generalize wr.heap.size = bx at *
        clear hb s0 s1 s2 bR
        have s0 := ((unhide B1).cell (p := ⟨w.heap.size, 0, none⟩) (cell_lt t0)).trans t0
        have s1 := ((unhide B1).cell (p := ⟨w.heap.size, 1, none⟩) (cell_lt t1)).trans t1
        have s2 := ((unhide B1).cell (p := ⟨w.heap.size, 2, none⟩) (cell_lt t2)).trans t2
        have BE := hide (fun n => unhide BT _ (bel_drewN (unhide B1) n))
        have hwn : IntKind.i64.wrap ((k : Int) - 1) = (k : Int) - 1 := by rw [IntKind.wrap_i64]; omega
        have HI := hide (fun u => l01In_any id 0 ((k : Int) - 1) u)
        by_cases hin : 0 ≤ id ∧ id ≤ (k : Int) - 1
        case neg =>
          rw [show (decide ((0 : Int) ≤ id) && decide (id ≤ (k : Int) - 1)) = false by simp; omega] at HI
          have Z := hide (unhide IXF (unhide KN (by
            by_cases hneg : id < 0
            · exact getP_neg hneg
            · exact here_out (by omega))))
          go_quiet ((go_at_call 22; exact Calls.quiet_of_same (unhide HI _)))
          go_wp2_with fail
          go_ret
          exact ⟨ret_bool (unhide Z), unhide BE _⟩
        rw [show (decide ((0 : Int) ≤ id) && decide (id ≤ (k : Int) - 1)) = true by simp; omega] at HI
        obtain ⟨q, rfl⟩ : ∃ q : Nat, id = (q : Int) := ⟨id.toNat, by omega⟩
        have hq1 : q < hs.length := by omega
        have hq2 : q < gs.length := by omega
        have hq3 : q < k := by omega
        have HGT := here_get (idx := idx) hq1 hq2
        obtain ⟨b', off', hag, g0⟩ := RowC.at ((unhide T).below (unhide B1)).gone (j := q) (u := .bool gs[q]) (by rw [List.getElem?_map, List.getElem?_eq_getElem hq2]; rfl)
        subst hag
        obtain ⟨b2, off2, hap, hbl, d0, d1, d2, d3, d4⟩ := PpIn.cells ((unhide T).below (unhide B1)).pgs hq1
        subst hap
        cases hgq : gs[q] with
        | true =>
          rw [hgq] at HGT g0
          have Z := hide (unhide IXF (unhide KN HGT))
          clear HGT d0 d1 d2 d3 d4
          go_quiet ((go_at_call 22; exact Calls.quiet_of_same (unhide HI _)))
          go_wp2_with fail
          go_ret
          exact ⟨ret_bool (unhide Z), unhide BE _⟩
        | false =>
          rw [hgq] at HGT g0
          by_cases hlo : hs[q].X.lo = low
          case neg =>
            have Z := hide (unhide IXF (unhide KO _ HGT hlo))
            have hne : (hs[q].X.lo.toList == low.toList) = false := by
              cases hq2 : (hs[q].X.lo.toList == low.toList) with
              | false => rfl
              | true => exact absurd (toList_inj (by simpa using hq2)) hlo
            clear HGT d1 d2 d3 d4
            generalize hs[q] = pd at *
            obtain ⟨X, s0', s1'⟩ := pd
            simp only at d0 hne hlo
            go_quiet ((go_at_call 22; exact Calls.quiet_of_same (unhide HI _)))
            go_wp2_with fail
            go_ret
            exact ⟨ret_bool (unhide Z), unhide BE _⟩
          have KH2 := hide (unhide KH _ HGT hlo)
          rw [hlo] at d0
          clear HGT d1 d2 d3 d4 hlo
          by_cases hk0 : j = 0
          · have E := hide (unhide KH2 fun h => by omega)
            subst hk0
            go_quiet ((go_at_call 22; exact Calls.quiet_of_same (unhide HI _)))
            go_wp2_with fail
            go_roundw
            case rel => exact ⟨1, by omega, by go_num, unhide ST (unhide E), bel_drewN (unhide B1) _⟩
            case measure => simp [intOf]; omega
          have hkp : 0 < j := by omega
          obtain ⟨b4, off4, e4, z0, _⟩ := unhide PRE hkp _ (unhide B1)
          injection e4 with e4
          injection e4 with e5 e6
          subst e5 e6
          have hi1 : ((j : Int) - 1).toNat = j - 1 := by omega
          have hwr : IntKind.i64.wrap ((j : Int) - 1) = (j : Int) - 1 := by rw [IntKind.wrap_i64]; omega
          have hin : 0 ≤ (j : Int) - 1 ∧ (j : Int) - 1 < (ni : Int) := by omega
          have hgt : decide ((0 : Int) < (j : Int)) = true := decide_eq_true (by omega)
          have KT2 := hide (unhide KT hkp)
          have KH3 := hide (fun (e : ltK (idx[j - 1]'(by omega)).low low = true) => unhide KH2 fun _ => e)
          clear PRE KT KH2
          generalize idx[j - 1] = py at *
          obtain ⟨plow, pid⟩ := py
          simp only at z0 KT2 KH3
          unfold ltK at KT2 KH3
          cases hlt3 : Op.bytesLess plow.toList low.toList with
          | false =>
            have Z := hide (unhide IXF (unhide KT2 hlt3))
            go_quiet ((go_at_call 22; exact Calls.quiet_of_same (unhide HI _)))
            go_wp2_with fail
            go_ret
            exact ⟨ret_bool (unhide Z), unhide BE _⟩
          | true =>
            have E := hide (unhide KH3 hlt3)
            go_quiet ((go_at_call 22; exact Calls.quiet_of_same (unhide HI _)))
            go_wp2_with fail
            go_roundw
            case rel => exact ⟨j + 1, by omega, by go_num, unhide ST (unhide E), bel_drewN (unhide B1) _⟩
            case measure => simp [intOf]; omega
    have hk1 : k < hs.length := by omega
    have hk2 : k < gs.length := by omega
    obtain ⟨b', off', hag, g0⟩ := RowC.at ((unhide T).below hb).gone (j := k) (u := .bool gs[k]) (by rw [List.getElem?_map, List.getElem?_eq_getElem hk2]; rfl)
    subst hag
    obtain ⟨b, off, hap, hbl, d0, d1, d2, d3, d4⟩ := PpIn.cells ((unhide T).below hb).pgs hk1
    subst hap
    have SUB := PpIn.sub ((unhide T).below hb).pgs hk1
    have HP := hide (specPageOK_any hs[k].X.lo hs[k].X.hi hs[k].X.r hs[k].s0.a hs[k].s0.n hs[k].s0.c hs[k].X.es hs[k].s1.a hs[k].s1.n hs[k].s1.c hs[k].X.ds wr (erow_C SUB.1) (drow_C SUB.2) (hcb _ (List.getElem_mem hk1)))
    have HN := hide (fun u => l05Empty_any hs[k].X.lo hs[k].X.hi hs[k].X.r hs[k].s0.a hs[k].s0.n hs[k].s0.c hs[k].s1.a hs[k].s1.n hs[k].s1.c u)
    rw [show emptyP hs[k].X.lo hs[k].X.hi hs[k].X.r hs[k].s0.n hs[k].s1.n = noP hs[k].X by
      unfold emptyP noP
      rw [rowC_len SUB.1, rowC_len SUB.2]] at HN
    have BAD := hide (fun e => okT_page (idx := idx) hk1 hk2 e)
    rw [pgOK_parts] at BAD
    have ST := hide (show pgOK hs[k].X gs[k] = true → ∀ i (_ : i < k + 1) (h1 : i < hs.length) (h2 : i < gs.length), pgOK hs[i].X gs[i] = true from fun h i hi h1 h2 => by
      by_cases e : i < k
      · exact unhide hok i e h1 h2
      · obtain rfl : i = k := by omega
        exact h)
    rw [pgOK_parts] at ST
    rw [show okPage hs[k].X.lo hs[k].X.hi hs[k].X.r hs[k].X.es hs[k].X.ds = okP hs[k].X from rfl] at HP
    clear SUB hok
    unfold pgv at HP
    generalize gs[k] = gk at *
    generalize okP hs[k].X = ok1 at *
    generalize noP hs[k].X = no1 at *
    generalize hs[k] = pd at *
    obtain ⟨X, ⟨a0, n0, c0⟩, ⟨a1, n1, c1⟩⟩ := pd
    simp only at d0 d1 d2 d3 d4 HP HN
    go_wp2_with fail
    refine (unhide HP).mono ?_
    rintro e w2 ⟨rfl, hb2⟩
    have bA := hide (hb.trans (hb2.mono hb.size))
    have s0' := (hb2.cell (p := ⟨w.heap.size, 0, none⟩) (cell_lt s0)).trans s0
    have s1' := (hb2.cell (p := ⟨w.heap.size, 1, none⟩) (cell_lt s1)).trans s1
    have g0' := (hb2.cell (p := ⟨b', off' + k, none⟩) (cell_lt g0)).trans g0
    have e0 := (hb2.cell (p := ⟨b, off + k * 5, none⟩) (cell_lt d0)).trans d0
    have e1 := (hb2.cell (p := ⟨b, off + k * 5 + 1, none⟩) (cell_lt d1)).trans d1
    have e2 := (hb2.cell (p := ⟨b, off + k * 5 + 2, none⟩) (cell_lt d2)).trans d2
    have e3 := (hb2.cell (p := ⟨b, off + k * 5 + 3, none⟩) (cell_lt d3)).trans d3
    have e4 := (hb2.cell (p := ⟨b, off + k * 5 + 4, none⟩) (cell_lt d4)).trans d4
    clear HP d0 d1 d2 d3 d4 g0 s0 s1 s2 hb hb2 bR
    cases ok1
    · have Z := hide (unhide BAD rfl)
      go_wp2_with fail
      go_ret
      exact ⟨ret_bool (unhide Z).symm, unhide BT _ (unhide bA)⟩
    cases gk
    · have Z := hide (unhide ST rfl)
      go_wp2_with fail
      go_roundw
      case rel => exact ⟨k + 1, by omega, by go_num, Z, unhide bA⟩
      case measure => simp [intOf]; omega
    go_wp2_with fail
    refine (unhide HN _).mono ?_
    rintro e w3 ⟨rfl, hb3⟩
    have bB := hide ((unhide bA).trans (hb3.mono (unhide bA).size))
    clear HN s0' s1' g0' e0 e1 e2 e3 e4
    cases no1
    · have Z := hide (unhide BAD rfl)
      go_wp2_with fail
      go_ret
      exact ⟨ret_bool (unhide Z).symm, unhide BT _ (unhide bB)⟩
    · have Z := hide (unhide ST rfl)
      go_wp2_with fail
      go_roundw
      case rel => exact ⟨k + 1, by omega, by go_num, Z, unhide bB⟩
      case measure => simp [intOf]; omega
end Go.Proofs.Ytdajoapbdeplhaa

namespace Go.Proofs.Ytdajoapbdeplhaa
open Go.RowKit

set_option maxHeartbeats 1000000 in
theorem implTreeOK_any (ap : Option Addr) (np cp : Nat) (ag : Option Addr) (ng cg : Nat) (ai : Option Addr) (ni ci : Nat) (hs : List PpH) (gs : List Bool) (idx : List RefD) (w : World) (hT : TrIn w ap np cp ag ng cg ai ni hs gs idx) (hci : ai = none → ci = 0) :
    Calls Try.prog 9 #[.agg #[.slice ap np cp, .slice ag ng cg, .slice ai ni ci]] w fun e w' => e = .returned (.bool (okT (trd hs gs idx))) ∧ Below w.heap.size w w' := by
  have b0 : ∀ o, Below w.heap.size w (w.alloc o) := fun o => (Below.refl _ _).alloc (Nat.le_refl _) _
  have C := hide (fun o => tableOf_any ap np cp ag ng cg ai ni ci hs gs idx (w.alloc o) (hT.below (b0 o)) hci)
  clear hT
  go_enter Try.func9, Try.ntmps9
  go_wp2_with fail
  refine (unhide C _).mono ?_
  rintro e w2 ⟨v, rfl, hb, _⟩
  go_wp2_with fail
  go_ret
  exact ⟨rfl, (b0 _).trans (hb.mono (b0 _).size)⟩
end Go.Proofs.Ytdajoapbdeplhaa

namespace Go.Proofs.Ytdajoapbdeplhaa
open Go.RowKit

/-- A tree that was made of one that came in. -/
structure TrMade (w : World) (B np ng ni g1 g2 g3 : Nat) (hs' hs : List PpH) (gs : List Bool) (idx : List RefD) : Prop where
  own : TrOwn w B np ng (.slice (some ⟨g1, 0, none⟩) np np) (.slice (some ⟨g2, 0, none⟩) ng ng) (.slice (some ⟨g3, 0, none⟩) ni ni) hs' gs idx
  same : hs'.map (·.X) = hs.map (·.X)
theorem TrMade.below {w w' : World} {B np ng ni g1 g2 g3 : Nat} {hs' hs : List PpH} {gs : List Bool} {idx : List RefD} (h : TrMade w B np ng ni g1 g2 g3 hs' hs gs idx) (hb : Below w.heap.size w w') : TrMade w' B np ng ni g1 g2 g3 hs' hs gs idx := ⟨h.own.below hb, h.same⟩
theorem TrMade.cap {w : World} {B np ng ni g1 g2 g3 : Nat} {hs' hs : List PpH} {gs : List Bool} {idx : List RefD} (h : TrMade w B np ng ni g1 g2 g3 hs' hs gs idx) : ∀ x ∈ hs', x.s0.a = none → x.s0.c = 0 := fun x hx e => by
  obtain ⟨i, a, ha⟩ := sbAt_of (es := hs'.map ppEl) (List.mem_map_of_mem hx) (x := ⟨79, 2, x.X.es.length, .slice x.s0.a x.s0.n x.s0.c, ecs x.X.es⟩) (List.Mem.head _)
  rcases (h.own.pg.dat i a _ ha).2 with ⟨e2, _⟩ | ⟨g, cap, cur, e2, _⟩
  · injection e2
  · rw [e] at e2
    injection e2 with e2
    cases e2
theorem tr_lens {w : World} {v : Value} {n : Nat} {hs : List PpH} (h : PpIn w v n hs) : ∀ x ∈ hs, x.s0.n = x.X.es.length ∧ x.s1.n = x.X.ds.length := fun x hx => by
  obtain ⟨i, hi, e⟩ := List.getElem_of_mem hx
  have := PpIn.sub h hi
  rw [e] at this
  exact ⟨rowC_len this.1, rowC_len this.2⟩
theorem TrMade.few {w w0 : World} {B np ng ni g1 g2 g3 : Nat} {hs' hs : List PpH} {gs : List Bool} {idx : List RefD} {v : Value} {n : Nat} (h : TrMade w B np ng ni g1 g2 g3 hs' hs gs idx) (h0 : PpIn w0 v n hs) (hl : ∀ h ∈ hs, h.s0.n ≤ 1048576 ∧ h.s1.n ≤ 1048576) : ∀ h ∈ hs', h.s0.n ≤ 1048576 ∧ h.s1.n ≤ 1048576 := fun x hx => by
  obtain ⟨a1, a2⟩ := tr_lens h.own.pg.reads x hx
  have hm : x.X ∈ hs.map (·.X) := by rw [← h.same]; exact List.mem_map_of_mem hx
  obtain ⟨y, hy, e⟩ := List.mem_map.1 hm
  obtain ⟨c1, c2⟩ := tr_lens h0 y hy
  have := hl y hy
  rw [a1, a2, ← e, ← c1, ← c2]
  exact this
theorem TrMade.okT {w : World} {B np ng ni g1 g2 g3 : Nat} {hs' hs : List PpH} {gs : List Bool} {idx : List RefD} (h : TrMade w B np ng ni g1 g2 g3 hs' hs gs idx) : trd hs' gs idx = trd hs gs idx := by unfold trd; rw [h.same]
theorem tr_cells {w : World} {b : Nat} {v0 v1 v2 : Value} {t : TypeId} (h : w.heap[b]? = some (.cells #[v0, v1, v2] t (0, 0))) : w.cell? ⟨b, 0, none⟩ = some v0 ∧ w.cell? ⟨b, 1, none⟩ = some v1 ∧ w.cell? ⟨b, 2, none⟩ = some v2 :=
  ⟨(heap_at h 0).1, (heap_at h 1).1, (heap_at h 2).1⟩
theorem tr_lt {w : World} {b : Nat} {o : Obj} (h : w.heap[b]? = some o) : b < w.heap.size := (Array.getElem?_eq_some_iff.1 h).1
set_option maxRecDepth 100000 in
set_option maxHeartbeats 8000000 in
theorem lawTreeOK_any (ap : Option Addr) (np cp : Nat) (ag : Option Addr) (ng cg : Nat) (ai : Option Addr) (ni ci : Nat) (hs : List PpH) (gs : List Bool) (idx : List RefD) (w : World) (hT : TrIn w ap np cp ag ng cg ai ni hs gs idx) (hC : TrCame w hs idx) (hn : np ≤ maxLen ∧ ng ≤ maxLen ∧ ni ≤ maxLen) :
    Calls Try.prog 3 #[.agg #[.slice ap np cp, .slice ag ng cg, .slice ai ni ci]] w fun e w' => e = .returned (.bool true) ∧ Below w.heap.size w w' := by
  have B : Below w.heap.size w (w.alloc (.cells #[.slice ap np cp, .slice ag ng cg, .slice ai ni ci] 26)) := (Below.refl _ _).alloc (Nat.le_refl _) _
  have P := hide hT
  have PC := hide hC
  have K := hide (heap_alloc_new w (.cells #[.slice ap np cp, .slice ag ng cg, .slice ai ni ci] 26))
  have cC : ∀ u, Below w.heap.size w u → TrCame u hs idx := fun u hu => ⟨fun h hh => (hC.pg h hh).below hu, hC.ix⟩
  have C0 := hide (fun u (hu : Below w.heap.size w u) => szTree_any ap np cp ag ng cg ai ni ci hs gs idx 1048576 u (by omega) (by omega) (hT.below hu) (cC u hu) hn)
  have CC := hide cC
  clear hT hC hn cC
  go_enter Try.func3, Try.ntmps3
  go_wp2_with fail
  generalize w.alloc (.cells #[.slice ap np cp, .slice ag ng cg, .slice ai ni ci] 26) = W0 at *
  refine (unhide C0 W0 B).mono ?_
  rintro e w1 ⟨q, rfl, hq, hb⟩
  replace K := hide ((hb.block w.heap.size (tr_lt (unhide K))).trans (unhide K))
  replace B := B.trans (hb.mono B.size)
  clear hb C0
  rcases hq with rfl | ⟨q0, _, n1, n2, n3, hfew⟩
  · go_wp2_with fail
    go_ret
    exact ⟨rfl, B⟩
  have FEW := hide hfew
  clear hfew
  have CT := hide (show ∀ u, Below w.heap.size w u → Calls Try.prog 8 #[.agg #[.slice ap np cp, .slice ag ng cg, .slice ai ni ci]] u fun e w' => ∃ g1 g2 g3 hs', e = .returned (.agg #[.slice (some ⟨g1, 0, none⟩) np np, .slice (some ⟨g2, 0, none⟩) ng ng, .slice (some ⟨g3, 0, none⟩) ni ni]) ∧ TrMade w' u.heap.size np ng ni g1 g2 g3 hs' hs gs idx ∧ Below u.heap.size u w' from fun u hu => (toTree_any ap np cp ag ng cg ai ni ci hs gs idx u ((unhide P).below hu) (unhide CC u hu) ⟨n1, n2, n3⟩ (unhide FEW)).mono fun e w' h => by
    obtain ⟨g1, g2, g3, hs', e, o, x, b⟩ := h
    exact ⟨g1, g2, g3, hs', e, ⟨o, x⟩, b⟩)
  obtain ⟨R, hR⟩ : ∃ R, R = okT (trd hs gs idx) := ⟨_, rfl⟩
  have CS := hide (show ∀ (u : World) (B g1 g2 g3 : Nat) (hs' : List PpH), TrMade u B np ng ni g1 g2 g3 hs' hs gs idx → Calls Try.prog 7 #[.agg #[.slice (some ⟨g1, 0, none⟩) np np, .slice (some ⟨g2, 0, none⟩) ng ng, .slice (some ⟨g3, 0, none⟩) ni ni]] u fun e w' => e = .returned (.bool R) ∧ Below u.heap.size u w' from fun u B g1 g2 g3 hs' ho => by
    rw [hR, ← ho.okT]; exact specTreeOK_any _ _ _ _ _ _ _ _ _ hs' gs idx u ho.own.reads ho.cap)
  have CI := hide (show ∀ (u : World) (B g1 g2 g3 : Nat) (hs' : List PpH), TrMade u B np ng ni g1 g2 g3 hs' hs gs idx → Calls Try.prog 9 #[.agg #[.slice (some ⟨g1, 0, none⟩) np np, .slice (some ⟨g2, 0, none⟩) ng ng, .slice (some ⟨g3, 0, none⟩) ni ni]] u fun e w' => e = .returned (.bool R) ∧ Below u.heap.size u w' from fun u B g1 g2 g3 hs' ho => by
    rw [hR, ← ho.okT]; exact implTreeOK_any _ _ _ _ _ _ _ _ _ hs' gs idx u ho.own.reads (fun h => by cases h))
  have CQ := hide (show ∀ (u : World) (B g1 g2 g3 B' h1 h2 h3 : Nat) (hs1 hs2 : List PpH), TrMade u B np ng ni g1 g2 g3 hs1 hs gs idx → TrMade u B' np ng ni h1 h2 h3 hs2 hs gs idx → Calls Try.prog 10 #[.agg #[.slice (some ⟨g1, 0, none⟩) np np, .slice (some ⟨g2, 0, none⟩) ng ng, .slice (some ⟨g3, 0, none⟩) ni ni], .agg #[.slice (some ⟨h1, 0, none⟩) np np, .slice (some ⟨h2, 0, none⟩) ng ng, .slice (some ⟨h3, 0, none⟩) ni ni]] u fun e w' => e = .returned (.bool true) ∧ Below u.heap.size u w' from fun u B g1 g2 g3 B' h1 h2 h3 hs1 hs2 o1 o2 =>
    eqTree_any _ _ np _ _ _ _ ng _ _ _ _ ni _ _ hs1 hs2 gs idx u o1.own.reads o2.own.reads (o2.same.trans o1.same.symm) ⟨n1, n2, n3⟩ (o1.few (unhide P).pgs (unhide FEW)))
  have hRR : (R != R) = false := by cases R <;> rfl
  clear hR P FEW CC PC
  obtain ⟨p0, p1, p2⟩ := tr_cells (unhide K)
  go_wp2_with fail
  refine (unhide CT w1 B).mono ?_
  rintro e w2 ⟨g1, g2, g3, hs2, rfl, ho, hb⟩
  replace K := hide ((hb.block w.heap.size (tr_lt (unhide K))).trans (unhide K))
  replace B := B.trans (hb.mono B.size)
  have O2 := hide ho
  clear hb ho p0 p1 p2
  go_wp2_with fail
  refine (unhide CS w2 _ _ _ _ _ (unhide O2)).mono ?_
  rintro e w3 ⟨rfl, hb⟩
  replace K := hide ((hb.block w.heap.size (tr_lt (unhide K))).trans (unhide K))
  replace B := B.trans (hb.mono B.size)
  clear hb O2 CS
  obtain ⟨p0, p1, p2⟩ := tr_cells (unhide K)
  go_wp2_with fail
  refine (unhide CT w3 B).mono ?_
  rintro e w4 ⟨x1, x2, x3, hs4, rfl, ho, hb⟩
  replace K := hide ((hb.block w.heap.size (tr_lt (unhide K))).trans (unhide K))
  replace B := B.trans (hb.mono B.size)
  clear hb p0 p1 p2
  have hb : Below w4.heap.size w4 (w4.alloc (.cells #[.slice (some ⟨x1, 0, none⟩) np np, .slice (some ⟨x2, 0, none⟩) ng ng, .slice (some ⟨x3, 0, none⟩) ni ni] 32)) := (Below.refl _ _).alloc (Nat.le_refl _) _
  have X := hide (heap_alloc_new w4 (.cells #[.slice (some ⟨x1, 0, none⟩) np np, .slice (some ⟨x2, 0, none⟩) ng ng, .slice (some ⟨x3, 0, none⟩) ni ni] 32))
  replace K := hide ((hb.block w.heap.size (tr_lt (unhide K))).trans (unhide K))
  replace B := B.trans (hb.mono B.size)
  have OX := hide (ho.below hb)
  clear hb ho
  go_wp2_with fail
  generalize w4.alloc (.cells #[.slice (some ⟨x1, 0, none⟩) np np, .slice (some ⟨x2, 0, none⟩) ng ng, .slice (some ⟨x3, 0, none⟩) ni ni] 32) = w5 at *
  generalize hxb : w4.heap.size = xb at *
  refine (unhide CI w5 _ _ _ _ _ (unhide OX)).mono ?_
  rintro e w6 ⟨rfl, hb⟩
  replace K := hide ((hb.block w.heap.size (tr_lt (unhide K))).trans (unhide K))
  replace X := hide ((hb.block xb (tr_lt (unhide X))).trans (unhide X))
  replace OX := hide ((unhide OX).below hb)
  replace B := B.trans (hb.mono B.size)
  clear hb CI hxb
  have SK := hide (show ∀ u, Below w6.heap.size w6 u → (fun u => Below w6.heap.size w6 u ∧ u.cell? ⟨w.heap.size, 0, none⟩ = some (.slice ap np cp) ∧ u.cell? ⟨w.heap.size, 1, none⟩ = some (.slice ag ng cg) ∧ u.cell? ⟨w.heap.size, 2, none⟩ = some (.slice ai ni ci) ∧ u.cell? ⟨xb, 0, none⟩ = some (.slice (some ⟨x1, 0, none⟩) np np) ∧ u.cell? ⟨xb, 1, none⟩ = some (.slice (some ⟨x2, 0, none⟩) ng ng) ∧ u.cell? ⟨xb, 2, none⟩ = some (.slice (some ⟨x3, 0, none⟩) ni ni)) u from fun u hb => by
    obtain ⟨m0, m1, m2⟩ := tr_cells ((hb.block w.heap.size (tr_lt (unhide K))).trans (unhide K))
    obtain ⟨i0, i1, i2⟩ := tr_cells ((hb.block xb (tr_lt (unhide X))).trans (unhide X))
    exact ⟨hb, m0, m1, m2, i0, i1, i2⟩)
  have DT := hide (fun (u : World) (hb : Below w6.heap.size w6 u) => (unhide CT u (B.trans (hb.mono B.size))).mono fun e u' h => show ∃ g1 g2 g3 hs', e = .returned (.agg #[.slice (some ⟨g1, 0, none⟩) np np, .slice (some ⟨g2, 0, none⟩) ng ng, .slice (some ⟨g3, 0, none⟩) ni ni]) ∧ TrMade u' u.heap.size np ng ni g1 g2 g3 hs' hs gs idx ∧ Below w6.heap.size w6 u' by
    obtain ⟨g1, g2, g3, hs', e, o, b⟩ := h
    exact ⟨g1, g2, g3, hs', e, o, hb.trans (b.mono hb.size)⟩)
  have DQ := hide (fun (u : World) (hb : Below w6.heap.size w6 u) (B' h1 h2 h3 : Nat) (hs2 : List PpH) (o2 : TrMade u B' np ng ni h1 h2 h3 hs2 hs gs idx) => (unhide CQ u _ _ _ _ _ _ _ _ _ _ ((unhide OX).below hb) o2).mono fun e u' h => show e = .returned (.bool true) ∧ Below w6.heap.size w6 u' from ⟨h.1, hb.trans (h.2.mono hb.size)⟩)
  have G0 : Below w6.heap.size w6 w6.drew := (Below.refl _ _).drew
  clear CT CQ
  go_wp2_with fail
  go_region_held3 (fun u => Below w6.heap.size w6 u ∧ u.cell? ⟨w.heap.size, 0, none⟩ = some (.slice ap np cp) ∧ u.cell? ⟨w.heap.size, 1, none⟩ = some (.slice ag ng cg) ∧ u.cell? ⟨w.heap.size, 2, none⟩ = some (.slice ai ni ci) ∧ u.cell? ⟨xb, 0, none⟩ = some (.slice (some ⟨x1, 0, none⟩) np np) ∧ u.cell? ⟨xb, 1, none⟩ = some (.slice (some ⟨x2, 0, none⟩) ng ng) ∧ u.cell? ⟨xb, 2, none⟩ = some (.slice (some ⟨x3, 0, none⟩) ni ni)) (exact unhide SK _ (by assumption)) (first
    | (go_at_call 8; refine (unhide DT _ (by assumption)).mono ?_; rintro e w7 ⟨h1, h2, h3, hs7, rfl, o7, b7⟩; have H7 := hide o7; clear o7)
    | (go_at_call 10; refine (unhide DQ _ (by assumption) _ _ _ _ _ (unhide H7)).mono ?_; rintro e w8 ⟨rfl, b8⟩))
  clear b7 H7 G0 DT DQ SK
  have BF := B.trans (b8.mono B.size)
  clear b8
  go_wp2_with fail
  go_ret
  exact ⟨rfl, BF⟩
end Go.Proofs.Ytdajoapbdeplhaa

namespace Go.Proofs.Ytdajoapbdeplhaa
open Go.RowKit Go.ChangeShapes Go.WideShapes

set_option maxRecDepth 100000 in
theorem open_entries {H : Type} {enc : TypeId × Value → H} {w : World} {base : Nat} {spare : Nat → Bool} {held : Bool} {v : Value} {fuel : Nat} {x : DataW H × List MemPlace}
    (h : DataW.trod enc Try.prog w base spare held fuel 84 [v] = some x) : ∃ a l c es, v = .slice a l c ∧ ERow w a l es ∧ l ≤ maxLen ∧ ∀ i (hi : i < es.length), es[i].k.size ≤ maxLen ∧ es[i].v.size ≤ maxLen := by
  rcases Deep.open_slice Try.underlying84 h with ⟨hcs, _⟩ | ⟨y, l, c, m, n, D, Pl, hcs, hb, hl, hm, hmm, _, hel⟩
  · simp at hcs
    subst hcs
    exact ⟨none, 0, 0, [], rfl, ⟨rfl, fun i hi => absurd hi (Nat.not_lt_zero _)⟩, by unfold maxLen; omega, fun i hi => absurd hi (Nat.not_lt_zero _)⟩
  simp at hcs
  subst hcs
  have hlm : l ≤ m := by rw [hmm]; split <;> omega
  have c2 : Try.prog.cellsOf 141 = 2 := by kernel_rfl
  rw [c2] at hel
  have one : ∀ i, i < l → ∃ d : EntD, (d.k.size ≤ maxLen ∧ d.v.size ≤ maxLen) ∧ ∃ b off, some y = some (⟨b, off, none⟩ : Addr) ∧ w.cell? ⟨b, off + i * 2, none⟩ = some (.string d.k) ∧ w.cell? ⟨b, off + i * 2 + 1, none⟩ = some (.string d.v) := by
    intro i hi
    obtain ⟨cs, hc, ht⟩ := hel i (by omega)
    obtain ⟨_, hlen, hcell⟩ := World.cells?_some hc
    obtain ⟨y0, y1, n', _, _, h0, h1⟩ := trod_struct2 Try.underlying141 ht
    obtain ⟨k0, e0, _, w0⟩ := DataW.trod_string Try.underlying9 h0
    obtain ⟨k1, e1, _, w1⟩ := DataW.trod_string Try.underlying9 h1
    match cs, hlen with
    | [v0, v1], _ =>
      have s0 : Try.prog.cellsOf 9 = 1 := by kernel_rfl
      have e0' : v0 = .string k0 := by simpa [s0] using e0
      have e1' : v1 = .string k1 := by simpa [s0] using e1
      subst e0' e1'
      have g0 := hcell 0 (by omega)
      have g1 := hcell 1 (by omega)
      rw [Deep.add_add] at g0 g1
      obtain ⟨b, off, spot⟩ := y
      have hs : spot = none := by
        by_cases hi0 : i = 0
        · have := World.cell?_spot (g0.trans rfl)
          simpa [Addr.add, hi0] using this
        · obtain ⟨cs', hc', ht'⟩ := hel 0 (by omega)
          obtain ⟨_, hlen', hcell'⟩ := World.cells?_some hc'
          have h0' := hcell' 0 (by omega)
          match cs', hlen' with
          | [u0, u1], _ =>
            have := World.cell?_spot (h0'.trans rfl)
            simpa [Addr.add] using this
      subst hs
      have e : ∀ j, (⟨b, off, none⟩ : Addr).add j = ⟨b, off + j, none⟩ := fun j => by unfold Addr.add; split <;> simp_all
      rw [e] at g0 g1
      exact ⟨⟨k0, k1⟩, ⟨w0, w1⟩, b, off, rfl, by simpa using g0, by simpa [Nat.add_assoc] using g1⟩
  have : ∀ i, ∃ d : EntD, i < l → (d.k.size ≤ maxLen ∧ d.v.size ≤ maxLen) ∧ ∃ b off, some y = some (⟨b, off, none⟩ : Addr) ∧ w.cell? ⟨b, off + i * 2, none⟩ = some (.string d.k) ∧ w.cell? ⟨b, off + i * 2 + 1, none⟩ = some (.string d.v) := fun i => by
    by_cases hi : i < l
    · obtain ⟨d, hd⟩ := one i hi
      exact ⟨d, fun _ => hd⟩
    · exact ⟨noE, fun h => absurd h hi⟩
  obtain ⟨F, hF⟩ := Classical.skolem.1 this
  refine ⟨some y, l, c, (List.range l).map F, rfl, ⟨by simp, fun i hi => ?_⟩, by omega, fun i hi => ?_⟩
  · have hi' : i < l := by simpa using hi
    simpa using (hF i hi').2
  · have hi' : i < l := by simpa using hi
    simpa using (hF i hi').1
set_option maxRecDepth 100000 in
theorem open_deltas {H : Type} {enc : TypeId × Value → H} {w : World} {base : Nat} {spare : Nat → Bool} {held : Bool} {v : Value} {fuel : Nat} {x : DataW H × List MemPlace}
    (h : DataW.trod enc Try.prog w base spare held fuel 85 [v] = some x) : ∃ a l c ds, v = .slice a l c ∧ DRow w a l ds ∧ l ≤ maxLen ∧ ∀ i (hi : i < ds.length), ds[i].k.size ≤ maxLen ∧ ds[i].v.size ≤ maxLen := by
  rcases Deep.open_slice Try.underlying85 h with ⟨hcs, _⟩ | ⟨y, l, c, m, n, D, Pl, hcs, hb, hl, hm, hmm, _, hel⟩
  · simp at hcs
    subst hcs
    exact ⟨none, 0, 0, [], rfl, ⟨rfl, fun i hi => absurd hi (Nat.not_lt_zero _)⟩, by unfold maxLen; omega, fun i hi => absurd hi (Nat.not_lt_zero _)⟩
  simp at hcs
  subst hcs
  have hlm : l ≤ m := by rw [hmm]; split <;> omega
  have c4 : Try.prog.cellsOf 143 = 4 := by kernel_rfl
  rw [c4] at hel
  have one : ∀ i, i < l → ∃ d : DelD, (d.k.size ≤ maxLen ∧ d.v.size ≤ maxLen) ∧ ∃ b off, some y = some (⟨b, off, none⟩ : Addr) ∧ w.cell? ⟨b, off + i * 4, none⟩ = some (.int .i64 d.kind) ∧ w.cell? ⟨b, off + i * 4 + 1, none⟩ = some (.string d.k) ∧
      w.cell? ⟨b, off + i * 4 + 2, none⟩ = some (.string d.v) ∧ w.cell? ⟨b, off + i * 4 + 3, none⟩ = some (.int .i64 d.to) := by
    intro i hi
    obtain ⟨cs, hc, ht⟩ := hel i (by omega)
    obtain ⟨_, hlen, hcell⟩ := World.cells?_some hc
    obtain ⟨y0, y1, y2, y3, n', _, _, h0, h1, h2, h3⟩ := Go.Joins.trod_struct4 Try.underlying143 ht
    obtain ⟨k0, e0, _, w0⟩ := DataW.trod_int Try.underlying3 h0
    obtain ⟨k1, e1, _, w1⟩ := DataW.trod_string Try.underlying9 h1
    obtain ⟨k2, e2, _, w2⟩ := DataW.trod_string Try.underlying9 h2
    obtain ⟨k3, e3, _, w3⟩ := DataW.trod_int Try.underlying3 h3
    match cs, hlen with
    | [v0, v1, v2, v3], _ =>
      have s0 : Try.prog.cellsOf 3 = 1 := by kernel_rfl
      have s3 : Try.prog.cellsOf 9 = 1 := by kernel_rfl
      have e0' : v0 = .int .i64 k0 := by simpa [s0] using e0
      have e1' : v1 = .string k1 := by simpa [s0, s3] using e1
      have e2' : v2 = .string k2 := by simpa [s0, s3] using e2
      have e3' : v3 = .int .i64 k3 := by simpa [s0, s3] using e3
      subst e0' e1' e2' e3'
      have g0 := hcell 0 (by omega)
      have g1 := hcell 1 (by omega)
      have g2 := hcell 2 (by omega)
      have g3 := hcell 3 (by omega)
      rw [Deep.add_add] at g0 g1 g2 g3
      obtain ⟨b, off, spot⟩ := y
      have hs : spot = none := by
        by_cases hi0 : i = 0
        · have := World.cell?_spot (g0.trans rfl)
          simpa [Addr.add, hi0] using this
        · obtain ⟨cs', hc', ht'⟩ := hel 0 (by omega)
          obtain ⟨_, hlen', hcell'⟩ := World.cells?_some hc'
          have h0' := hcell' 0 (by omega)
          match cs', hlen' with
          | [u0, u1, u2, u3], _ =>
            have := World.cell?_spot (h0'.trans rfl)
            simpa [Addr.add] using this
      subst hs
      have e : ∀ j, (⟨b, off, none⟩ : Addr).add j = ⟨b, off + j, none⟩ := fun j => by unfold Addr.add; split <;> simp_all
      rw [e] at g0 g1 g2 g3
      exact ⟨⟨k0, k1, k2, k3⟩, ⟨w1, w2⟩, b, off, rfl, by simpa using g0, by simpa [Nat.add_assoc] using g1, by simpa [Nat.add_assoc] using g2, by simpa [Nat.add_assoc] using g3⟩
  have : ∀ i, ∃ d : DelD, i < l → (d.k.size ≤ maxLen ∧ d.v.size ≤ maxLen) ∧ ∃ b off, some y = some (⟨b, off, none⟩ : Addr) ∧ w.cell? ⟨b, off + i * 4, none⟩ = some (.int .i64 d.kind) ∧ w.cell? ⟨b, off + i * 4 + 1, none⟩ = some (.string d.k) ∧
      w.cell? ⟨b, off + i * 4 + 2, none⟩ = some (.string d.v) ∧ w.cell? ⟨b, off + i * 4 + 3, none⟩ = some (.int .i64 d.to) := fun i => by
    by_cases hi : i < l
    · obtain ⟨d, hd⟩ := one i hi
      exact ⟨d, fun _ => hd⟩
    · exact ⟨noD, fun h => absurd h hi⟩
  obtain ⟨F, hF⟩ := Classical.skolem.1 this
  refine ⟨some y, l, c, (List.range l).map F, rfl, ⟨by simp, fun i hi => ?_⟩, by omega, fun i hi => ?_⟩
  · have hi' : i < l := by simpa using hi
    simpa using (hF i hi').2
  · have hi' : i < l := by simpa using hi
    simpa using (hF i hi').1
theorem array5 {α : Type} {cs : Array α} (h : cs.size = 5) : ∃ c0 c1 c2 c3 c4, cs = #[c0, c1, c2, c3, c4] := by
  obtain ⟨l⟩ := cs
  match l, h with
  | [c0, c1, c2, c3, c4], _ => exact ⟨c0, c1, c2, c3, c4, rfl⟩
theorem trod_struct5 {H : Type} {enc : TypeId × Value → H} {P : Program} {w : World} {base : Nat} {spare : Nat → Bool} {held : Bool} {t : TypeId} {f0 f1 f2 f3 f4 : Field} {fuel : Nat} {cs : List Value} {x : DataW H × List MemPlace} (ht : P.underlying t = some (.struct #[f0, f1, f2, f3, f4])) (h : DataW.trod enc P w base spare held fuel t cs = some x) :
    ∃ y0 y1 y2 y3 y4 n, cs.length = P.cellsOf t ∧ DataW.trod enc P w base spare held n f0.type ((cs.drop f0.offset).take (P.cellsOf f0.type)) = some y0 ∧
      DataW.trod enc P w base spare held n f1.type ((cs.drop f1.offset).take (P.cellsOf f1.type)) = some y1 ∧ DataW.trod enc P w base spare held n f2.type ((cs.drop f2.offset).take (P.cellsOf f2.type)) = some y2 ∧
      DataW.trod enc P w base spare held n f3.type ((cs.drop f3.offset).take (P.cellsOf f3.type)) = some y3 ∧ DataW.trod enc P w base spare held n f4.type ((cs.drop f4.offset).take (P.cellsOf f4.type)) = some y4 := by
  obtain ⟨xs, n, _, rfl, hl, hlen, hf⟩ := DataW.trod_struct ht h
  match xs, hlen with
  | [y0, y1, y2, y3, y4], _ => exact ⟨y0, y1, y2, y3, y4, n, hl, by simpa using hf 0 f0 rfl, by simpa using hf 1 f1 rfl, by simpa using hf 2 f2 rfl, by simpa using hf 3 f3 rfl, by simpa using hf 4 f4 rfl⟩
/-- Five cells that read as a page. -/
theorem open_page_cells {H : Type} {enc : TypeId × Value → H} {w : World} {base : Nat} {spare : Nat → Bool} {held : Bool} {v0 v1 v2 v3 v4 : Value} {fuel : Nat} {x : DataW H × List MemPlace}
    (h : DataW.trod enc Try.prog w base spare held fuel 87 [v0, v1, v2, v3, v4] = some x) : ∃ lo hi r ab nb cb es ac nc cc ds, v0 = .string lo ∧ v1 = .string hi ∧ v2 = .int .i64 r ∧ v3 = .slice ab nb cb ∧ v4 = .slice ac nc cc ∧ IsPage w lo hi ab nb es ac nc ds := by
  obtain ⟨y0, y1, y2, y3, y4, n, _, h0, h1, h2, h3, h4⟩ := trod_struct5 Try.underlying87 h
  have s0 : Try.prog.cellsOf 3 = 1 := by kernel_rfl
  have s1 : Try.prog.cellsOf 9 = 1 := by kernel_rfl
  have s2 : Try.prog.cellsOf 84 = 1 := by kernel_rfl
  have s3 : Try.prog.cellsOf 85 = 1 := by kernel_rfl
  obtain ⟨lo, e0, _, w0⟩ := DataW.trod_string Try.underlying9 h0
  obtain ⟨hi, e1, _, w1⟩ := DataW.trod_string Try.underlying9 h1
  obtain ⟨r, e2, _, w2⟩ := DataW.trod_int Try.underlying3 h2
  have h3' : DataW.trod enc Try.prog w base spare held n 84 [v3] = some y3 := by simpa [s2] using h3
  have h4' : DataW.trod enc Try.prog w base spare held n 85 [v4] = some y4 := by simpa [s3] using h4
  obtain ⟨ab, nb, cb, es, rfl, hE, hnb, hTE⟩ := open_entries h3'
  obtain ⟨ac, nc, cc, ds, rfl, hD, hnc, hTD⟩ := open_deltas h4'
  exact ⟨lo, hi, r, ab, nb, cb, es, ac, nc, cc, ds, by simpa [s1] using e0, by simpa [s1] using e1, by simpa [s0] using e2, rfl, rfl, hE, hD, w0, w1, hnb, hnc, hTE, hTD⟩
set_option maxRecDepth 100000 in
theorem open_page {H : Type} {enc : TypeId × Value → H} {w : World} {base : Nat} {spare : Nat → Bool} {held : Bool} {v : Value} {r0 : Reach} {b0 : Nat} {d : DataW H} {p : List MemPlace}
    (hv : Value.okWide Try.prog w r0 b0 87 v) (h : DataW.Trod enc Try.prog w base spare held 87 v d p) : ∃ lo hi r ab nb cb es ac nc cc ds, v = pgv lo hi r ab nb cb ac nc cc ∧ IsPage w lo hi ab nb es ac nc ds := by
  have hC : Try.prog.cellsOf 87 = 5 := by kernel_rfl
  obtain ⟨cs, rfl, hsz⟩ := okWide_struct Try.underlying87 hv
  obtain ⟨c0, c1, c2, c3, c4, rfl⟩ := array5 (hsz.trans hC)
  obtain ⟨fuel, hf⟩ := h
  obtain ⟨lo, hi, r, ab, nb, cb, es, ac, nc, cc, ds, rfl, rfl, rfl, rfl, rfl, hP⟩ := open_page_cells (v0 := c0) (v1 := c1) (v2 := c2) (v3 := c3) (v4 := c4) (by simpa [Value.cells] using hf)
  exact ⟨lo, hi, r, ab, nb, cb, es, ac, nc, cc, ds, rfl, hP⟩
end Go.Proofs.Ytdajoapbdeplhaa

namespace Go.Proofs.Ytdajoapbdeplhaa
open Go.RowKit Go.ChangeShapes Go.WideShapes

theorem open_byC {H : Type} {enc : TypeId × Value → H} {w : World} {base : Nat} {spare : Nat → Bool} {held : Bool} {v : Value} {fuel : Nat} {x : DataW H × List MemPlace}
    (h : DataW.trod enc Try.prog w base spare held fuel 117 [v] = some x) : ∃ (a : Option Addr) (l c : Nat) (xs : List Int), v = .slice a l c ∧ RowC w (.slice a l c) xs.length (xs.map (Value.int .u8)) ∧ l ≤ maxLen := by
  rcases open_ints Try.underlying117 Try.underlying5 (by kernel_rfl) h with ⟨hcs, _⟩ | ⟨y, l, c, zs, hcs, _, hl, hm, hz, _, hcell, hwz⟩
  · simp at hcs
    subst hcs
    exact ⟨none, 0, 0, [], rfl, ⟨none, 0, rfl, fun j u hu => by simp at hu⟩, by unfold maxLen; omega⟩
  · simp at hcs
    subst hcs
    have hlz : l ≤ zs.length := by rw [hz]; split <;> omega
    have hR : IsRow .u8 w (some y) l zs.length zs := .inr ⟨y, rfl, hlz, by rw [hz]; split <;> omega, rfl, hcell, hwz⟩
    obtain ⟨hr, hm2, _⟩ := row_of_isRow hR
    have hxl := hr.1
    refine ⟨some y, l, c, zs.take l, rfl, ⟨some y, c, by rw [hxl], fun j u hu => ?_⟩, hm2⟩
    have hj : j < (zs.take l).length := by simpa using (List.getElem?_eq_some_iff.1 hu).1
    obtain ⟨b, off, e, q⟩ := hr.2 j (by omega)
    refine ⟨b, off, e, ?_⟩
    rw [q, ← hu]
    rw [List.getElem?_map, List.getElem?_eq_getElem hj, List.getD_eq_getElem?_getD, List.getElem?_eq_getElem hj]
    rfl
theorem open_boC {H : Type} {enc : TypeId × Value → H} {w : World} {base : Nat} {held : Bool} {v : Value} {fuel : Nat} {x : DataW H × List MemPlace}
    (h : DataW.trod enc Try.prog w base (fun _ => true) held fuel 23 [v] = some x) : ∃ (a : Option Addr) (l c : Nat) (xs : List Bool), v = .slice a l c ∧ RowC w (.slice a l c) xs.length (xs.map Value.bool) ∧ l ≤ maxLen := by
  rcases Deep.open_bools Try.underlying23 Try.underlying4 (by kernel_rfl) h with ⟨hcs, _⟩ | ⟨y, l, c, B, hcs, _, hl, hm, _, hcell⟩
  · simp at hcs
    subst hcs
    exact ⟨none, 0, 0, [], rfl, ⟨none, 0, rfl, fun j u hu => by simp at hu⟩, by unfold maxLen; omega⟩
  · simp at hcs
    subst hcs
    refine ⟨some y, l, c, (List.range l).map B, rfl, ⟨some y, c, by simp, fun j u hu => ?_⟩, by omega⟩
    have hj : j < l := by simpa using (List.getElem?_eq_some_iff.1 hu).1
    obtain ⟨b, off, spot⟩ := y
    have hs : spot = none := by simpa [Addr.add] using World.cell?_spot (hcell 0 (by omega))
    subst hs
    have e : (⟨b, off, none⟩ : Addr).add j = ⟨b, off + j, none⟩ := by unfold Addr.add; split <;> simp_all
    have := hcell j (by omega)
    rw [e] at this
    exact ⟨b, off, rfl, by rw [this, ← hu]; simp [hj]⟩
end Go.Proofs.Ytdajoapbdeplhaa

namespace Go.Proofs.Ytdajoapbdeplhaa
open Go.RowKit Go.ChangeShapes Go.WideShapes

set_option maxRecDepth 100000 in
theorem open_jlist {H : Type} {enc : TypeId × Value → H} {w : World} {base : Nat} {spare : Nat → Bool} {held : Bool} {v : Value} {fuel : Nat} {x : DataW H × List MemPlace}
    (h : DataW.trod enc Try.prog w base spare held fuel 24 [v] = some x) : ∃ a l c ds, v = .slice a l c ∧ JRow w a l ds ∧ l ≤ maxLen ∧ ∀ i (hi : i < ds.length), ds[i].low.size ≤ maxLen := by
  rcases Deep.open_slice Try.underlying24 h with ⟨hcs, _⟩ | ⟨y, l, c, m, n, D, Pl, hcs, hb, hl, hm, hmm, _, hel⟩
  · simp at hcs
    subst hcs
    exact ⟨none, 0, 0, [], rfl, ⟨rfl, fun i hi => absurd hi (Nat.not_lt_zero _)⟩, by unfold maxLen; omega, fun i hi => absurd hi (Nat.not_lt_zero _)⟩
  simp at hcs
  subst hcs
  have hlm : l ≤ m := by rw [hmm]; split <;> omega
  have cN : Try.prog.cellsOf 89 = 2 := by kernel_rfl
  rw [cN] at hel
  have one : ∀ i, i < l → ∃ d : RefD, (d.low.size ≤ maxLen) ∧ ∃ b off, some y = some (⟨b, off, none⟩ : Addr) ∧ w.cell? ⟨b, off + i * 2, none⟩ = some (.string d.low) ∧ w.cell? ⟨b, off + i * 2 + 1, none⟩ = some (.int .i64 d.id) := by
    intro i hi
    obtain ⟨cs, hc, ht⟩ := hel i (by omega)
    obtain ⟨_, hlen, hcell⟩ := World.cells?_some hc
    obtain ⟨y0, y1, n', _, _, h0, h1⟩ := trod_struct2 Try.underlying89 ht
    obtain ⟨k0, e0, _, w0⟩ := DataW.trod_string Try.underlying9 h0
    obtain ⟨k1, e1, _, w1⟩ := DataW.trod_int Try.underlying3 h1
    match cs, hlen with
    | [v0, v1], _ =>
      have si : Try.prog.cellsOf 3 = 1 := by kernel_rfl
      have ss : Try.prog.cellsOf 9 = 1 := by kernel_rfl
      have e0' : v0 = .string k0 := by simpa [si, ss] using e0
      have e1' : v1 = .int .i64 k1 := by simpa [si, ss] using e1
      subst e0' e1'
      have g0 := hcell 0 (by omega)
      have g1 := hcell 1 (by omega)
      rw [Deep.add_add] at g0 g1
      obtain ⟨b, off, spot⟩ := y
      have hs : spot = none := by
        by_cases hi0 : i = 0
        · have := World.cell?_spot (g0.trans rfl)
          simpa [Addr.add, hi0] using this
        · obtain ⟨cs', hc', ht'⟩ := hel 0 (by omega)
          obtain ⟨_, hlen', hcell'⟩ := World.cells?_some hc'
          have h0' := hcell' 0 (by omega)
          match cs', hlen' with
          | [u0, u1], _ =>
            have := World.cell?_spot (h0'.trans rfl)
            simpa [Addr.add] using this
      subst hs
      have e : ∀ j, (⟨b, off, none⟩ : Addr).add j = ⟨b, off + j, none⟩ := fun j => by unfold Addr.add; split <;> simp_all
      rw [e] at g0 g1
      exact ⟨⟨k0, k1⟩, w0, b, off, rfl, by simpa using g0, by simpa [Nat.add_assoc] using g1⟩
  have : ∀ i, ∃ d : RefD, i < l → (d.low.size ≤ maxLen) ∧ ∃ b off, some y = some (⟨b, off, none⟩ : Addr) ∧ w.cell? ⟨b, off + i * 2, none⟩ = some (.string d.low) ∧ w.cell? ⟨b, off + i * 2 + 1, none⟩ = some (.int .i64 d.id) := fun i => by
    by_cases hi : i < l
    · obtain ⟨d, hd⟩ := one i hi
      exact ⟨d, fun _ => hd⟩
    · exact ⟨noJ, fun h => absurd h hi⟩
  obtain ⟨F, hF⟩ := Classical.skolem.1 this
  refine ⟨some y, l, c, (List.range l).map F, rfl, ⟨by simp, fun i hi => ?_⟩, by omega, fun i hi => ?_⟩
  · have hi' : i < l := by simpa using hi
    simpa using (hF i hi').2
  · have hi' : i < l := by simpa using hi
    simpa using (hF i hi').1
end Go.Proofs.Ytdajoapbdeplhaa

namespace Go.Proofs.Ytdajoapbdeplhaa
open Go.RowKit Go.ChangeShapes Go.WideShapes

set_option maxRecDepth 100000 in
theorem open_Pp {H : Type} {enc : TypeId × Value → H} {w : World} {base : Nat} {spare : Nat → Bool} {held : Bool} {v : Value} {fuel : Nat} {x : DataW H × List MemPlace}
    (h : DataW.trod enc Try.prog w base spare held fuel 22 [v] = some x) : ∃ (a : Option Addr) (l c : Nat) (hs : List PpH), v = .slice a l c ∧ PpIn w (.slice a l c) l hs ∧ l ≤ maxLen ∧ ∀ h ∈ hs, PpIs w h := by
  rcases Deep.open_slice Try.underlying22 h with ⟨hcs, _⟩ | ⟨y, l, c, m, n, D, Pl, hcs, hb, hl, hm, hmm, _, hel⟩
  · simp at hcs
    subst hcs
    exact ⟨none, 0, 0, [], rfl, ⟨⟨none, 0, rfl, fun j u hu => by simp at hu⟩, rfl, fun e he => by simp at he, fun e he => by simp at he⟩, by unfold maxLen; omega, fun h hh => by simp at hh⟩
  simp at hcs
  subst hcs
  have hlm : l ≤ m := by rw [hmm]; split <;> omega
  have cN : Try.prog.cellsOf 87 = 5 := by kernel_rfl
  rw [cN] at hel
  have one : ∀ i, i < l → ∃ d : PpH, PpIs w d ∧ ∃ b off, some y = some (⟨b, off, none⟩ : Addr) ∧ w.cell? ⟨b, off + i * 5, none⟩ = some (.string d.X.lo) ∧ w.cell? ⟨b, off + i * 5 + 1, none⟩ = some (.string d.X.hi) ∧ w.cell? ⟨b, off + i * 5 + 2, none⟩ = some (.int .i64 d.X.r) ∧ w.cell? ⟨b, off + i * 5 + 3, none⟩ = some (.slice d.s0.a d.s0.n d.s0.c) ∧ w.cell? ⟨b, off + i * 5 + 4, none⟩ = some (.slice d.s1.a d.s1.n d.s1.c) := by
    intro i hi
    obtain ⟨cs, hc, ht⟩ := hel i (by omega)
    obtain ⟨_, hlen, hcell⟩ := World.cells?_some hc
    match cs, hlen with
    | [v0, v1, v2, v3, v4], _ =>
      obtain ⟨lo, hi', r, ab, nb, cb, es, ac, nc, cc, ds, e0', e1', e2', q0, q1, hP⟩ := open_page_cells ht
      subst e0' e1' e2' q0 q1
      have u0 := hcell 0 (by omega)
      have u1 := hcell 1 (by omega)
      have u2 := hcell 2 (by omega)
      have u3 := hcell 3 (by omega)
      have u4 := hcell 4 (by omega)
      rw [Deep.add_add] at u0 u1 u2 u3 u4
      obtain ⟨b, off, spot⟩ := y
      have hs : spot = none := by
        by_cases hi0 : i = 0
        · have := World.cell?_spot (u0.trans rfl)
          simpa [Addr.add, hi0] using this
        · obtain ⟨cs', hc', ht'⟩ := hel 0 (by omega)
          obtain ⟨_, hlen', hcell'⟩ := World.cells?_some hc'
          have h0' := hcell' 0 (by omega)
          match cs', hlen' with
          | [w0, w1, w2, w3, w4], _ =>
            have := World.cell?_spot (h0'.trans rfl)
            simpa [Addr.add] using this
      subst hs
      have e : ∀ j, (⟨b, off, none⟩ : Addr).add j = ⟨b, off + j, none⟩ := fun j => by unfold Addr.add; split <;> simp_all
      rw [e] at u0 u1 u2 u3 u4
      exact ⟨⟨⟨lo, hi', r, es, ds⟩, ⟨ab, nb, cb⟩, ⟨ac, nc, cc⟩⟩, hP, b, off, rfl, by simpa using u0, by simpa [Nat.add_assoc] using u1, by simpa [Nat.add_assoc] using u2, by simpa [Nat.add_assoc] using u3, by simpa [Nat.add_assoc] using u4⟩
  have : ∀ i, ∃ d : PpH, i < l → PpIs w d ∧ ∃ b off, some y = some (⟨b, off, none⟩ : Addr) ∧ w.cell? ⟨b, off + i * 5, none⟩ = some (.string d.X.lo) ∧ w.cell? ⟨b, off + i * 5 + 1, none⟩ = some (.string d.X.hi) ∧ w.cell? ⟨b, off + i * 5 + 2, none⟩ = some (.int .i64 d.X.r) ∧ w.cell? ⟨b, off + i * 5 + 3, none⟩ = some (.slice d.s0.a d.s0.n d.s0.c) ∧ w.cell? ⟨b, off + i * 5 + 4, none⟩ = some (.slice d.s1.a d.s1.n d.s1.c) := fun i => by
    by_cases hi : i < l
    · obtain ⟨d, hd⟩ := one i hi
      exact ⟨d, fun _ => hd⟩
    · exact ⟨⟨⟨ByteArray.empty, ByteArray.empty, 0, [], []⟩, ⟨none, 0, 0⟩, ⟨none, 0, 0⟩⟩, fun h => absurd h hi⟩
  obtain ⟨F, hF⟩ := Classical.skolem.1 this
  refine ⟨some y, l, c, (List.range l).map F, rfl, ⟨⟨some y, c, rfl, fun j u hu => ?_⟩, by simp, ppEl_wid _, fun e he x hx => ?_⟩, by omega, fun h hh => ?_⟩
  · have hjl : j < l * 5 := by
      have h1 := (List.getElem?_eq_some_iff.1 hu).1
      rw [fm_len (S := 5) _ (ppEl_wid _)] at h1
      simpa using h1
    have hk : j / 5 < l := by omega
    have hat := ppEl_at (hs := (List.range l).map F) (k := j / 5) (by simpa using hk)
    have e1 := fm_at (S := 5) _ (ppEl_wid ((List.range l).map F)) (j / 5) (j % 5) _ hat (by omega)
    rw [show j / 5 * 5 + j % 5 = j by omega] at e1
    rw [e1] at hu
    obtain ⟨_, b, off, e2, c0, c1, c2, c3, c4⟩ := hF (j / 5) hk
    refine ⟨b, off, e2, ?_⟩
    simp only [List.getElem_map, List.getElem_range] at hu
    have hr : j % 5 < 5 := by omega
    have hj2 : j = j / 5 * 5 + j % 5 := by omega
    generalize j % 5 = r at *
    generalize j / 5 = k at *
    subst hj2
    unfold ppEl at hu
    match r, hr with
    | 0, _ => simp at hu; rw [← hu]; exact c0
    | 1, _ => simp at hu; rw [← hu, ← Nat.add_assoc]; exact c1
    | 2, _ => simp at hu; rw [← hu, ← Nat.add_assoc]; exact c2
    | 3, _ => simp at hu; rw [← hu, ← Nat.add_assoc]; exact c3
    | 4, _ => simp at hu; rw [← hu, ← Nat.add_assoc]; exact c4
  · obtain ⟨h, hh, rfl⟩ := List.mem_map.1 he
    obtain ⟨i, hi, rfl⟩ := List.mem_map.1 hh
    have hi' : i < l := by simpa using hi
    obtain ⟨hP, _⟩ := hF i hi'
    have r0 := rowC_ecs (c := (F i).s0.c) hP.1
    have r1 := rowC_dcs (c := (F i).s1.c) hP.2.1
    unfold ppEl at hx
    simp only [List.mem_cons, List.not_mem_nil, or_false] at hx
    rcases hx with rfl | rfl
    · exact r0
    · exact r1
  · obtain ⟨i, hi, rfl⟩ := List.mem_map.1 hh
    exact (hF i (by simpa using hi)).1
set_option maxRecDepth 100000 in
theorem open_tree {H : Type} {enc : TypeId × Value → H} {w : World} {base : Nat} {held : Bool} {v : Value} {r0 : Reach} {b0 : Nat} {dd : DataW H} {p : List MemPlace}
    (hv : Value.okWide Try.prog w r0 b0 26 v) (h : DataW.Trod enc Try.prog w base (fun _ => true) held 26 v dd p) : ∃ ap np cp ag ng cg ai ni ci hs gs idx, v = .agg #[.slice ap np cp, .slice ag ng cg, .slice ai ni ci] ∧ TrIn w ap np cp ag ng cg ai ni hs gs idx ∧ TrCame w hs idx ∧ (np ≤ maxLen ∧ ng ≤ maxLen ∧ ni ≤ maxLen) := by
  have hC : Try.prog.cellsOf 26 = 3 := by kernel_rfl
  obtain ⟨cs, rfl, hsz⟩ := okWide_struct Try.underlying26 hv
  obtain ⟨fuel, hf⟩ := h
  obtain ⟨c0, c1, c2, rfl⟩ : ∃ c0 c1 c2, cs = #[c0, c1, c2] := by
    have := hsz.trans hC
    obtain ⟨l⟩ := cs
    match l, this with
    | [c0, c1, c2], _ => exact ⟨c0, c1, c2, rfl⟩
  have hf' : DataW.trod enc Try.prog w base (fun _ => true) held fuel 26 [c0, c1, c2] = some (dd, p) := by simpa [Value.cells] using hf
  obtain ⟨y0, y1, y2, n', _, _, h0, h1, h2⟩ := Go.Deep.trod_struct3 Try.underlying26 hf'
  have s0 : Try.prog.cellsOf 22 = 1 := by kernel_rfl
  have s1 : Try.prog.cellsOf 23 = 1 := by kernel_rfl
  have s2 : Try.prog.cellsOf 24 = 1 := by kernel_rfl
  have h0' : DataW.trod enc Try.prog w base (fun _ => true) held n' 22 [c0] = some y0 := by simpa [s0] using h0
  have h1' : DataW.trod enc Try.prog w base (fun _ => true) held n' 23 [c1] = some y1 := by simpa [s1] using h1
  have h2' : DataW.trod enc Try.prog w base (fun _ => true) held n' 24 [c2] = some y2 := by simpa [s2] using h2
  obtain ⟨ap, np, cp, hs, e0, hP, hPn, hPs⟩ := open_Pp h0'
  obtain ⟨ag, ng, cg, gs, e1, hG, hGn⟩ := open_boC h1'
  obtain ⟨ai, ni, ci, idx, e2, hI, hIn, hIl⟩ := open_jlist h2'
  subst e0 e1 e2
  have hgl := rowC_len hG
  exact ⟨ap, np, cp, ag, ng, cg, ai, ni, ci, hs, gs, idx, rfl, ⟨hP, by rw [hgl] at hG ⊢; exact hG, hgl.symm, hI⟩, ⟨hPs, hIl⟩, hPn, hGn, hIn⟩
end Go.Proofs.Ytdajoapbdeplhaa

namespace Go.Proofs.Ytdajoapbdeplhaa.fnExactTreeOKFrame
open Go.ChangeShapes Go.WideShapes Go.ChangeAt Go.RowKit
open Go.ChangeMaps (open_string shut_string)
set_option linter.unusedVariables false

theorem own : ownKnob Try.prog.godebug = none := by kernel_rfl
theorem laidOut : laidOutB Try.prog = true := by kernel_rfl

set_option maxRecDepth 100000 in
theorem lifted (os : Os) (started : os.Started) (H : Type) (enc : TypeId × Value → H) :
    ReturnsInHanded {} Try.checked os 3 .any (Rows.fnExactTreeOKSpec.pre6 enc Try.prog Try.f3 Rows.fnExactTreeOKRow.domain false) (Rows.fnExactTreeOKSpec.post enc Try.prog Try.f3 false true false false) := by
  refine returnsInHanded_of_change (C := Try.checked) own started (by kernel_rfl) Try.func3
    (ChangeSpec.witness6 (enc := enc) (C := Try.checked) false ⟨#[], #[.agg #[.slice none 0 0, .slice none 0 0, .slice none 0 0]], []⟩ 8 (by kernel_rfl) (by kernel_rfl) (by kernel_rfl) (by kernel_rfl)) ?_
  intro W base args ds gs before hval0 hW _ _
  have hval : ∀ (j : Nat) t v, Try.f3.params[j]? = some t → args[j]? = some v → Value.okWide Try.prog W .any base t v := hval0
  have hW' := hW
  obtain ⟨p, q, hA0, hV, rfl, _, _⟩ := hW
  have hA : DataW.TrodAll enc Try.prog W 0 (fun _ => true) true Try.f3.params.toList args.toList ds p := hA0
  rw [Try.params3] at hA hval
  obtain ⟨v0, vs0, d0, ds0, p0, q0, hargs, rfl, rfl, h0, r0⟩ := trodAll_cons hA
  obtain ⟨rfl, rfl, rfl⟩ := trodAll_nil r0
  obtain rfl : args = #[v0] := by cases args; simp_all
  obtain ⟨rfl, rfl⟩ := trodVars_none hV
  have k0 := h0
  have lt0 : ∀ x ∈ p0, x.block < W.heap.size := by obtain ⟨m, hm⟩ := k0; exact DataW.trod_lt m _ _ _ hm
  obtain ⟨tap0, tnp0, tcp0, tag0, tng0, tcg0, tai0, tni0, tci0, ths0, tgs0, tidx0, rfl, w0, wi0, wn0⟩ := open_tree (hval 0 26 v0 rfl rfl) h0
  clear hA0 hval0
  refine (lawTreeOK_any tap0 tnp0 tcp0 tag0 tng0 tcg0 tai0 tni0 tci0 ths0 tgs0 tidx0 W w0 wi0 wn0).mono fun e W' ⟨he, bel⟩ => ?_
  subst he
  exact ⟨_, rfl, _, _, _, [], _, [], hW', trodAll_mk1 (shut_bool Try.underlying4 _), (trodAll_cons_mk (Below.trod laidOut (by kernel_rfl) (of_decide_eq_true (by kernel_rfl)) k0 bel lt0) trodAll_mk0), rfl, bel.frame _, fun h => by cases h⟩

theorem over : Rows.fnExactTreeOKRow.holds Try.pinned (OpenSpec.ofChange Rows.fnExactTreeOKSpec) :=
  OpenClaim.holds_of_wide 3 Try.f3 rfl rfl rfl rfl rfl rfl rfl ⟨rfl, rfl, rfl, rfl, rfl⟩ rfl rfl rfl rfl rfl (by kernel_rfl) Try.func3 (by kernel_rfl)
    (of_decide_eq_true (by kernel_rfl)) (by unfold Func.isWrapper; first | (rw [if_pos (by decide +kernel)]; kernel_rfl) | (rw [if_neg (by decide +kernel)]; exact ⟨rfl, rfl⟩))
    (fun os started H enc _ => lifted os started H enc)

end Go.Proofs.Ytdajoapbdeplhaa.fnExactTreeOKFrame
namespace Go.Proofs.Ytdajoapbdeplhaa
/-- THE STATEMENT. -/
theorem fnExactTreeOK_proved : Rows.FnExactTreeOKSaid := fnExactTreeOKFrame.over
#print axioms fnExactTreeOK_proved
end Go.Proofs.Ytdajoapbdeplhaa
