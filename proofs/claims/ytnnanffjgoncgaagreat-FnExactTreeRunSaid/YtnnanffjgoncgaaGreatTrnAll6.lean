/-
  YtM, GdI, UsLaw, YtIn, UsP in one.
-/
import Derived.Test.YtnnanffjgoncgaaGreatTrnAll1
import Derived.Deep.RegionWith
import Derived.Test.YtnnanffjgoncgaaGreatGdA
import Derived.Test.YtnnanffjgoncgaaGreatTrnAll2
import Derived.Test.YtnnanffjgoncgaaGreatTrnAll5
import Derived.Deep.Slices
import Derived.Lib.SmallJoins
import Derived.OpenShut
import Derived.ProofKit
import Derived.ShutString
import Derived.ChangeOld
import Derived.Below
namespace Go.Proofs.YtnnanffjgoncgaaGreat
open Go.RowKit

def markY (k0 i : Nat) : AcT := ⟨((k0 + 4 * i : Nat) : Int), ((k0 + 4 * i + 1 : Nat) : Int), mt (k0 + 4 * i + 2) ByteArray.empty, mt (k0 + 4 * i + 3) ByteArray.empty⟩
def markYs (k0 n : Nat) : List AcT := (List.range n).map (markY k0)
theorem markYs_len (k0 n : Nat) : (markYs k0 n).length = n := by simp [markYs]
set_option maxRecDepth 100000 in
set_option maxHeartbeats 4000000 in
theorem markTreeActS_some (B g n c k0 : Nat) (ds : List AcT) (w : World) (hp : 0 < k0) (hn : 4 * n + k0 ≤ 9999990) (h1 : YOwns w B (.slice (some ⟨g, 0, none⟩) n c) ds) :
    Calls Tryz.prog 27 #[.slice (some ⟨g, 0, none⟩) n c, .int .i64 k0] w fun e w' => e = .returned (.int .i64 (k0 + 4 * n)) ∧ YOwns w' B (.slice (some ⟨g, 0, none⟩) n c) (markYs k0 n) ∧ w.grownBy w' (some g) := by
  have L := hide (yrow_of_owns h1).1
  have H := hide h1
  clear h1
  go_enter Tryz.func27, Tryz.ntmps27
  go_wp2_with fail
  go_loopw [1, 5] (fun q i wr => ∃ k : Nat, k ≤ n ∧ i = .int .i64 k ∧ q = .int .i64 (k0 + 4 * k) ∧ Hid (YOwns wr B (.slice (some ⟨g, 0, none⟩) n c) (markYs k0 k ++ ds.drop k)) ∧ Hid (w.grownBy wr (some g))) (fun _ i _ => n - (intOf i).toNat)
  case atStart => exact ⟨0, Nat.zero_le _, rfl, by simp, unhide H, rb_grownBy_below (Below.refl _ _)⟩
  case round =>
    clear H
    obtain ⟨k, hk, rfl, rfl, hB, hw⟩ := hrel
    by_cases hlt : k < n
    · have hke : k < ds.length := by have := unhide L; omega
      have hlx : k < (markYs k0 k ++ ds.drop k).length := by rw [List.length_append, markYs_len, List.length_drop]; omega
      have SM := hide (show (markYs k0 k ++ ds.drop k).set k (markY k0 k) = markYs k0 (k + 1) ++ ds.drop (k + 1) from rb_set_mark (markY k0) ds k hke)
      have HXN := hide (yrow_of_owns (unhide hB)).1
      have O0 := hide (show wr.ownsRow B 38 4 (.slice (some ⟨g, 0, none⟩) n c) n (ycs (markYs k0 k ++ ds.drop k)) by have := unhide hB; unfold YOwns at this; rwa [unhide HXN] at this)
      generalize markYs k0 k ++ ds.drop k = xs at *
      have G0 := hw
      clear hB hw
      obtain ⟨u0, e0⟩ := rb_ownsRow_some (unhide O0) (j := k * 4) (by omega)
      have f0 := (unhide O0).frozenAt (k * 4)
      obtain ⟨o0, g0⟩ := World.ownsRow.stored (unhide O0) (k * 4) (.int .i64 (k0 + 4 * k))
      have O1 := hide o0
      have G1 := hide (rb_grown_trans (unhide G0) g0)
      clear o0 g0 O0 G0
      obtain ⟨u1, e1⟩ := rb_ownsRow_some (unhide O1) (j := k * 4 + 1) (by omega)
      have f1 := (unhide O1).frozenAt (k * 4 + 1)
      obtain ⟨o1, g1⟩ := World.ownsRow.stored (unhide O1) (k * 4 + 1) (.int .i64 (k0 + 4 * k + 1))
      have O2 := hide o1
      have G2 := hide (rb_grown_trans (unhide G1) g1)
      clear o1 g1 O1 G1
      go_wp2_with fail
      generalize wr.setCell ⟨g, k * 4, none⟩ (.int .i64 (k0 + 4 * k)) = w100 at *
      generalize w100.setCell ⟨g, k * 4 + 1, none⟩ (.int .i64 (k0 + 4 * k + 1)) = w101 at *
      clear e0 f0
      clear e1 f1
      refine (markText_at (k0 + 4 * k + 2) _ w101 (by omega) (by omega) (by omega)).mono ?_
      rintro e w12 ⟨rfl, hb2⟩
      replace O2 := hide (rb_ownsRow_below (unhide O2) hb2)
      replace G2 := hide (rb_grown_trans (unhide G2) (rb_grownBy_below hb2))
      clear hb2
      generalize hm2 : mt (k0 + 4 * k + 2) ByteArray.empty = t2 at *
      obtain ⟨u2, e2⟩ := rb_ownsRow_some (unhide O2) (j := k * 4 + 2) (by omega)
      have f2 := (unhide O2).frozenAt (k * 4 + 2)
      obtain ⟨o2, g2⟩ := World.ownsRow.stored (unhide O2) (k * 4 + 2) (.string t2)
      have O3 := hide o2
      have G3 := hide (rb_grown_trans (unhide G2) g2)
      clear o2 g2 O2 G2
      go_wp2_with fail
      generalize w12.setCell ⟨g, k * 4 + 2, none⟩ (.string t2) = w102 at *
      clear e2 f2
      refine (markText_at (k0 + 4 * k + 3) _ w102 (by omega) (by omega) (by omega)).mono ?_
      rintro e w13 ⟨rfl, hb3⟩
      replace O3 := hide (rb_ownsRow_below (unhide O3) hb3)
      replace G3 := hide (rb_grown_trans (unhide G3) (rb_grownBy_below hb3))
      clear hb3
      generalize hm3 : mt (k0 + 4 * k + 3) ByteArray.empty = t3 at *
      obtain ⟨u3, e3⟩ := rb_ownsRow_some (unhide O3) (j := k * 4 + 3) (by omega)
      have f3 := (unhide O3).frozenAt (k * 4 + 3)
      obtain ⟨o3, g3⟩ := World.ownsRow.stored (unhide O3) (k * 4 + 3) (.string t3)
      have O4 := hide o3
      have G4 := hide (rb_grown_trans (unhide G3) g3)
      clear o3 g3 O3 G3
      have O9 := hide (show YOwns (w13.setCell ⟨g, k * 4 + 3, none⟩ (.string t3)) B (.slice (some ⟨g, 0, none⟩) n c) (markYs k0 (k + 1) ++ ds.drop (k + 1)) by
        rw [← unhide SM]
        unfold YOwns
        rw [ycs_set, List.length_set, unhide HXN]
        have := unhide O4
        have he0 : ((k0 + 4 * k : Nat) : Int) = (k0 : Int) + 4 * k := by omega
        have he1 : ((k0 + 4 * k + 1 : Nat) : Int) = (k0 : Int) + 4 * k + 1 := by omega
        unfold markY
        simp only [he0, he1, hm2, hm3]
        exact this)
      clear O4
      go_wp2_with fail
      all_goals
        go_roundw
        case rel => exact ⟨k + 1, by omega, by go_num, by go_num, unhide O9, unhide G4⟩
        case measure => simp [intOf]; omega
    · obtain rfl : k = n := by omega
      have P := hide (show YOwns wr B (.slice (some ⟨g, 0, none⟩) k c) (markYs k0 k) by
        have := unhide hB
        rw [List.drop_of_length_le (by rw [unhide L]; exact Nat.le_refl _), List.append_nil] at this
        exact this)
      go_wp2_with fail
      go_ret
      exact ⟨rfl, unhide P, unhide hw⟩
theorem markTreeActS_none (a : Option Addr) (c : Nat) (k0 : Int) (w : World) :
    Calls Tryz.prog 27 #[.slice a 0 c, .int .i64 k0] w fun e w' => e = .returned (.int .i64 k0) ∧ w' = w := by
  go_enter Tryz.func27, Tryz.ntmps27
  go_wp2_with fail
  refine wp_loop_rounds 1 ?_
  rw [rounds_succ]
  go_wp2_with fail
  go_ret
  exact ⟨rfl, rfl⟩
theorem markTreeActS_any (B : Nat) (a : Option Addr) (n c k0 : Nat) (ds : List AcT) (w : World) (hp : 0 < k0) (hn : 4 * n + k0 ≤ 9999990) (h1 : YOwns w B (.slice a n c) ds) :
    Calls Tryz.prog 27 #[.slice a n c, .int .i64 k0] w fun e w' => e = .returned (.int .i64 ((k0 + 4 * n : Nat) : Int)) ∧ YOwns w' B (.slice a n c) (markYs k0 n) ∧ w.grownBy w' (Value.slice a n c).ownBlock := by
  rcases h1.2 with ⟨e, hl⟩ | ⟨g, cap, cur, e, _⟩
  · injection e with e1 e2 e3
    subst e1 e2 e3
    refine (markTreeActS_none none 0 k0 w).mono ?_
    rintro e w' ⟨rfl, rfl⟩
    exact ⟨by simp, World.ownsRow_nil _ _ _ _, rb_grownBy_below (Below.refl _ _)⟩
  · injection e with e1 e2 e3
    subst e1 e2 e3
    refine (markTreeActS_some B g _ _ k0 ds w hp hn h1).mono ?_
    rintro e w' ⟨rfl, h2, h3⟩
    exact ⟨by simp, h2, h3⟩
end Go.Proofs.YtnnanffjgoncgaaGreat

namespace Go.Proofs.YtnnanffjgoncgaaGreat
open Go.RowKit

def in_Mk (k0 i : Nat) : Int := ((k0 + i : Nat) : Int)
/-- Marks. -/
def in_Mks (k0 n : Nat) : List Int := (List.range n).map (in_Mk k0)
set_option maxHeartbeats 1000000 in
theorem eqIntS_C (a1 a2 : Option Addr) (n c1 c2 : Nat) (d : List Int) (w : World) (hn : n ≤ maxLen) (hd : d.length = n) (h1 : RowC w (.slice a1 n c1) n (d.map (Value.int .i64))) (h2 : RowC w (.slice a2 n c2) n (d.map (Value.int .i64))) :
    Calls Tryz.prog 25 #[.slice a1 n c1, .slice a2 n c2] w fun e w' => e = .returned (.bool true) ∧ Below w.heap.size w w' := by
  unfold maxLen at hn
  have H1 := hide h1
  have H2 := hide h2
  have L := hide hd
  clear h1 h2 hd
  go_enter Tryz.func25, Tryz.ntmps25
  go_wp2_with fail
  go_loopw [5] (fun i wr => ∃ k : Nat, k ≤ n ∧ i = .int .i64 k ∧ ∃ q, wr = w.drewN q) (fun i _ => n - (intOf i).toNat)
  case atStart => exact ⟨0, Nat.zero_le _, rfl, 0, rfl⟩
  case round =>
    obtain ⟨k, hk, rfl, q, rfl⟩ := hrel
    by_cases hlt : k < n
    · have hkd : k < d.length := by rw [unhide L]; exact hlt
      obtain ⟨b1, o1, rfl, e1⟩ := (unhide H1).at (j := k) (u := Value.int .i64 d[k]) (by simp [hkd])
      obtain ⟨b2, o2, rfl, e2⟩ := (unhide H2).at (j := k) (u := Value.int .i64 d[k]) (by simp [hkd])
      generalize d[k] = x at *
      have hb : (x != x) = false := by simp
      go_wp2_with fail
      go_quiet (fail)
      go_wp2_with fail
      go_roundw
      case rel => exact ⟨k + 1, by omega, by go_num, _, rfl⟩
      case measure => simp [intOf]; omega
    · obtain rfl : k = n := by omega
      go_wp2_with fail
      go_ret
      exact ⟨rfl, bel_drewN (Below.refl _ _) _⟩
theorem in__set (k0 k : Nat) : (.int .i64 ((k0 : Int) + k)) = Value.int .i64 (in_Mk k0 k) := by unfold in_Mk; simp
set_option maxHeartbeats 1000000 in
theorem gd_markIntS_some (B g n c k0 : Nat) (d : List Int) (w : World) (hn : n + k0 ≤ 100000000) (hd : d.length = n) (h1 : w.ownsRow B 3 1 (.slice (some ⟨g, 0, none⟩) n c) n (d.map (Value.int .i64))) :
    Calls Tryz.prog 29 #[.slice (some ⟨g, 0, none⟩) n c, .int .i64 (k0 : Int)] w fun e w' => e = .returned (.int .i64 ((k0 + n : Nat) : Int)) ∧ w'.ownsRow B 3 1 (.slice (some ⟨g, 0, none⟩) n c) n ((in_Mks k0 n).map (Value.int .i64)) ∧ WrB (fun i => i = g) w w' := by
  have H := hide h1
  have L := hide hd
  clear h1 hd
  go_enter Tryz.func29, Tryz.ntmps29
  go_wp2_with fail
  go_loopw [1, 5] (fun q i wr => ∃ k : Nat, k ≤ n ∧ i = .int .i64 k ∧ q = .int .i64 ((k0 : Int) + k) ∧ Hid (wr.ownsRow B 3 1 (.slice (some ⟨g, 0, none⟩) n c) n ((in_Mks k0 k ++ d.drop k).map (Value.int .i64))) ∧ Hid (WrB (fun i => i = g) w wr)) (fun _ i _ => n - (intOf i).toNat)
  case atStart => exact ⟨0, Nat.zero_le _, rfl, by simp, unhide H, WrB.same _ _⟩
  case round =>
    clear H
    obtain ⟨k, hk, rfl, rfl, ho, hw⟩ := hrel
    by_cases hlt : k < n
    · have hkd : k < d.length := by rw [unhide L]; exact hlt
      obtain ⟨u3, e3⟩ := rb_ownsRow_some (unhide ho) (j := k) (by omega)
      have e4 := (unhide ho).frozenAt k
      have R := hide (show (wr.setCell ⟨g, k, none⟩ (.int .i64 ((k0 : Int) + k))).ownsRow B 3 1 (.slice (some ⟨g, 0, none⟩) n c) n ((in_Mks k0 (k + 1) ++ d.drop (k + 1)).map (Value.int .i64)) by
        have h := (World.ownsRow.stored (unhide ho) k (Value.int .i64 (in_Mk k0 k))).1
        rw [← List.map_set] at h
        have e : (in_Mks k0 k ++ d.drop k).set k (in_Mk k0 k) = in_Mks k0 (k + 1) ++ d.drop (k + 1) := rb_set_mark (in_Mk k0) d k hkd
        rw [e, ← in__set] at h
        exact h)
      have R2 := hide ((unhide hw).seq (show WrB (fun i => i = g) wr (wr.setCell ⟨g, k, none⟩ (.int .i64 ((k0 : Int) + k))) from ⟨rfl, rfl, rfl, by simp [World.setCell], fun k _ hk => Below.heap_setCell _ _ _ _ hk⟩))
      clear ho hw
      go_wp2_with fail
      all_goals
        go_roundw
        case rel => exact ⟨k + 1, by omega, by go_num, by go_num, unhide R, unhide R2⟩
        case measure => simp [intOf]; omega
    · obtain rfl : k = n := by omega
      have Z := hide (show wr.ownsRow B 3 1 (.slice (some ⟨g, 0, none⟩) k c) k ((in_Mks k0 k).map (Value.int .i64)) by
        have h := unhide ho
        rwa [List.drop_of_length_le (by rw [unhide L]; exact Nat.le_refl _), List.append_nil] at h)
      go_wp2_with fail
      go_ret
      exact ⟨ret_int (by omega), unhide Z, unhide hw⟩
theorem gd_markIntS_nil (k0 : Int) (w : World) : Calls Tryz.prog 29 #[.slice none 0 0, .int .i64 k0] w fun e w' => e = .returned (.int .i64 k0) ∧ w' = w := by
  go_enter Tryz.func29, Tryz.ntmps29
  go_wp2_with fail
  refine wp_loop_rounds 1 ?_
  rw [rounds_succ]
  go_wp2_with fail
  go_ret
  exact ⟨rfl, rfl⟩
theorem markIntS_own (B : Nat) (a : Option Addr) (n c k0 : Nat) (d : List Int) (w : World) (hn : n + k0 ≤ 100000000) (hd : d.length = n) (h1 : w.ownsRow B 3 1 (.slice a n c) n (d.map (Value.int .i64))) :
    Calls Tryz.prog 29 #[.slice a n c, .int .i64 (k0 : Int)] w fun e w' => e = .returned (.int .i64 ((k0 + n : Nat) : Int)) ∧ w'.ownsRow B 3 1 (.slice a n c) n ((in_Mks k0 n).map (Value.int .i64)) ∧ WrB (fun i => (Value.slice a n c).ownBlock = some i) w w' := by
  rcases h1.2 with ⟨e, hl⟩ | ⟨g, cap, cur, e, _⟩
  · injection e with e1 e2 e3
    subst e1 e2 e3
    refine (gd_markIntS_nil k0 w).mono ?_
    rintro e w' ⟨rfl, rfl⟩
    exact ⟨rfl, World.ownsRow_nil _ _ _ _, WrB.same _ _⟩
  · injection e with e1 e2 e3
    subst e1
    refine (gd_markIntS_some B g n c k0 d w hn hd h1).mono ?_
    rintro e w' ⟨rfl, h2, h3⟩
    exact ⟨rfl, h2, h3.weak (fun i hi => by rw [hi]; rfl)⟩
set_option maxHeartbeats 1000000 in
theorem heldIntS_C (a : Option Addr) (n c k0 : Nat) (w : World) (hn : n + k0 ≤ 100000000) (h1 : RowC w (.slice a n c) n ((in_Mks k0 n).map (Value.int .i64))) :
    Calls Tryz.prog 31 #[.slice a n c, .int .i64 (k0 : Int)] w fun e w' => e = .returned (.int .i64 ((k0 + n : Nat) : Int)) ∧ Below w.heap.size w w' := by
  have H1 := hide h1
  clear h1
  go_enter Tryz.func31, Tryz.ntmps31
  go_wp2_with fail
  go_loopw [1, 5] (fun q i wr => ∃ k : Nat, k ≤ n ∧ i = .int .i64 k ∧ q = .int .i64 ((k0 : Int) + k) ∧ ∃ d, wr = w.drewN d) (fun _ i _ => n - (intOf i).toNat)
  case atStart => exact ⟨0, Nat.zero_le _, rfl, by simp, 0, rfl⟩
  case round =>
    obtain ⟨k, hk, rfl, rfl, dd, rfl⟩ := hrel
    by_cases hlt : k < n
    · obtain ⟨b, off, rfl, e1⟩ := (unhide H1).at (j := k) (u := (.int .i64 ((k0 : Int) + k))) (by rw [List.getElem?_map]; unfold in_Mks; rw [List.getElem?_map, List.getElem?_range hlt]; exact congrArg some (in__set k0 k).symm)
      go_wp2_with fail
      go_roundw
      case rel => exact ⟨k + 1, by omega, by go_num, by go_num, _, rfl⟩
      case measure => simp [intOf]; omega
    · obtain rfl : k = n := by omega
      go_wp2_with fail
      go_ret
      exact ⟨ret_int (by omega), bel_drewN (Below.refl _ _) _⟩
end Go.Proofs.YtnnanffjgoncgaaGreat

namespace Go.Proofs.YtnnanffjgoncgaaGreat
open Go.RowKit

/-- A tree and codes, each in rows of its own. -/
structure TrRun (w : World) (B np ng ni nc : Nat) (a1 : Option Addr) (c1 : Nat) (a2 : Option Addr) (c2 : Nat) (a3 : Option Addr) (c3 : Nat) (ac : Option Addr) (cc : Nat) (hs : List PpH) (gs : List Bool) (idx : List RefD) (cs : List Int) : Prop where
  tr : TrOwn w B np ng (.slice a1 np c1) (.slice a2 ng c2) (.slice a3 ni c3) hs gs idx
  cod : w.ownsRow B 3 1 (.slice ac nc cc) nc (cs.map (Value.int .i64))
def TrRBl (vp vg vi vc : Value) (hs : List PpH) (i : Nat) : Prop := TrBl vp vg vi hs i ∨ vc.ownBlock = some i
theorem TrRun.lt {w : World} {B np ng ni nc c1 c2 c3 cc : Nat} {a1 a2 a3 ac : Option Addr} {hs : List PpH} {gs : List Bool} {idx : List RefD} {cs : List Int} (h : TrRun w B np ng ni nc a1 c1 a2 c2 a3 c3 ac cc hs gs idx cs) (i : Nat) (hi : TrRBl (.slice a1 np c1) (.slice a2 ng c2) (.slice a3 ni c3) (.slice ac nc cc) hs i) : B ≤ i ∧ i < w.heap.size := by
  rcases hi with (hi | hi | hi) | hi
  · exact h.tr.pg.lt i hi
  · exact h.tr.go.lt i hi
  · exact h.tr.ix.lt i hi
  · exact h.cod.lt i hi
theorem TrRun.wr {P : Nat → Prop} {w w' : World} {B np ng ni nc c1 c2 c3 cc : Nat} {a1 a2 a3 ac : Option Addr} {hs : List PpH} {gs : List Bool} {idx : List RefD} {cs : List Int} (h : TrRun w B np ng ni nc a1 c1 a2 c2 a3 c3 ac cc hs gs idx cs) (hw : WrB P w w') (hp : ∀ i, TrRBl (.slice a1 np c1) (.slice a2 ng c2) (.slice a3 ni c3) (.slice ac nc cc) hs i → ¬ P i) : TrRun w' B np ng ni nc a1 c1 a2 c2 a3 c3 ac cc hs gs idx cs :=
  ⟨⟨h.tr.pg.keep hw (fun i hi => hp i (.inl (.inl hi))), rr_owns_wr h.tr.go hw (fun i hi => hp i (.inl (.inr (.inl hi)))), rr_owns_wr h.tr.ix hw (fun i hi => hp i (.inl (.inr (.inr hi))))⟩, rr_owns_wr h.cod hw (fun i hi => hp i (.inr hi))⟩
theorem TrRun.below {w w' : World} {B np ng ni nc c1 c2 c3 cc : Nat} {a1 a2 a3 ac : Option Addr} {hs : List PpH} {gs : List Bool} {idx : List RefD} {cs : List Int} (h : TrRun w B np ng ni nc a1 c1 a2 c2 a3 c3 ac cc hs gs idx cs) (hb : Below w.heap.size w w') : TrRun w' B np ng ni nc a1 c1 a2 c2 a3 c3 ac cc hs gs idx cs := ⟨h.tr.below hb, rb_ownsRow_below h.cod hb⟩
theorem TrRun.mark1 {w w' : World} {B np ng ni nc c1 c2 c3 cc : Nat} {a1 a2 a3 ac : Option Addr} {hs hs' : List PpH} {gs gs' : List Bool} {idx idx' : List RefD} {cs : List Int} (h : TrRun w B np ng ni nc a1 c1 a2 c2 a3 c3 ac cc hs gs idx cs) (ho : TrOwn w' B np ng (.slice a1 np c1) (.slice a2 ng c2) (.slice a3 ni c3) hs' gs' idx') (hw : WrB (TrBl (.slice a1 np c1) (.slice a2 ng c2) (.slice a3 ni c3) hs) w w') : TrRun w' B np ng ni nc a1 c1 a2 c2 a3 c3 ac cc hs' gs' idx' cs :=
  ⟨ho, rr_owns_wr h.cod hw (fun i hi hp => by
    rcases hp with hp | hp | hp
    · exact nbl_other h.tr.pg h.cod (by decide) (by decide) (by decide) hi hp
    · exact own_other h.cod h.tr.go (by decide) hi hp
    · exact own_other h.cod h.tr.ix (by decide) hi hp)⟩
theorem TrRun.mark2 {w w' : World} {B np ng ni nc c1 c2 c3 cc : Nat} {a1 a2 a3 ac : Option Addr} {hs : List PpH} {gs : List Bool} {idx : List RefD} {cs cs' : List Int} (h : TrRun w B np ng ni nc a1 c1 a2 c2 a3 c3 ac cc hs gs idx cs) (ho : w'.ownsRow B 3 1 (.slice ac nc cc) nc (cs'.map (Value.int .i64))) (hw : WrB (fun i => (Value.slice ac nc cc).ownBlock = some i) w w') : TrRun w' B np ng ni nc a1 c1 a2 c2 a3 c3 ac cc hs gs idx cs' :=
  ⟨⟨h.tr.pg.keep hw (fun _ hi e => nbl_other h.tr.pg h.cod (by decide) (by decide) (by decide) e hi), rr_owns_wr h.tr.go hw (fun _ hi => own_other h.tr.go h.cod (by decide) hi), rr_owns_wr h.tr.ix hw (fun _ hi => own_other h.tr.ix h.cod (by decide) hi)⟩, ho⟩
/-- How much a run's tree has. -/
theorem rt_few (acts : List AcT) : (rtT acts).ps.length ≤ 30 ∧ (rtT acts).gone.length ≤ 30 ∧ (rtT acts).idx.length ≤ 30 ∧ (rtN acts).length ≤ 150 ∧ ∀ p ∈ (rtT acts).ps, p.es.length ≤ 32 ∧ p.ds.length ≤ 12 := by
  unfold rtT rtN
  split
  · exact ⟨by show 0 ≤ 30; omega, by show 0 ≤ 30; omega, by show 0 ≤ 30; omega, by show 0 ≤ 150; omega, fun p hp => by cases hp⟩
  · rename_i hl
    obtain ⟨t, hc⟩ := runS_tre acts acts.length (Nat.le_refl _)
    rw [List.take_length] at t hc
    refine ⟨by rw [List.length_map]; exact t.len.2, by rw [List.length_map]; exact t.len.2, Nat.le_trans t.good.il t.len.2, by omega, fun p hp => ?_⟩
    obtain ⟨q, hq, rfl⟩ := List.mem_map.1 hp
    exact pgD_few t hq
/-- What TreeRun gives, in these words. -/
theorem rt_con {acts : List AcT} {W W' : World} {e : Ending} (h : RtRes acts W e W') : ∃ a1 c1 a2 c2 a3 c3 ac cc hs, e = .returned (.tuple #[.agg #[.slice a1 (rtT acts).ps.length c1, .slice a2 (rtT acts).gone.length c2, .slice a3 (rtT acts).idx.length c3], .slice ac (rtN acts).length cc, .int .i64 (rtC acts)]) ∧ TrRun W' W.heap.size (rtT acts).ps.length (rtT acts).gone.length (rtT acts).idx.length (rtN acts).length a1 c1 a2 c2 a3 c3 ac cc hs (rtT acts).gone (rtT acts).idx (rtN acts) ∧ hs.map (·.X) = (rtT acts).ps ∧ Below W.heap.size W W' := by
  obtain ⟨a1, n1, c1, a2, n2, c2, a3, n3, c3, ac, nc, cc, hs, gs, idx, rfl, ho, hn, ht, hb⟩ := h
  unfold trd at ht
  rw [← ht]
  simp only
  have e1 : hs.length = n1 := by have := ho.pg.len; simpa using this
  have e2 : gs.length = n2 := by have := ho.go.1; simpa using this
  have e3 : idx.length = n3 := by
    obtain ⟨a, c, e⟩ := us_sl ho.ix
    injection e with _ e _
    exact e.symm
  have e4 : (rtN acts).length = nc := by
    obtain ⟨a, c, e⟩ := us_sl hn
    injection e with _ e _
    exact e.symm
  subst e1 e2 e3 e4
  rw [List.length_map]
  exact ⟨a1, c1, a2, c2, a3, c3, ac, cc, hs, rfl, ⟨ho, hn⟩, rfl, hb⟩
theorem cnt_le {hs : List PpH} {ps : List PageD} (hX : hs.map (·.X) = ps) (hl : ps.length ≤ 30) (hp : ∀ p ∈ ps, p.es.length ≤ 32 ∧ p.ds.length ≤ 12) (k : Nat) : kG ppCnt k hs ≤ k + 30 * 115 := by
  rw [kG_sum]
  have hc : ∀ h ∈ hs, ppCnt h ≤ 115 := fun h hh => by
    have hm : h.X ∈ ps := by rw [← hX]; exact List.mem_map_of_mem hh
    have := hp _ hm
    unfold ppCnt
    omega
  have : ∀ l : List PpH, (∀ h ∈ l, ppCnt h ≤ 115) → (l.map ppCnt).sum ≤ l.length * 115 := fun l => by
    induction l with
    | nil => intro _; simp
    | cons x r ih =>
      intro h
      simp only [List.map_cons, List.sum_cons, List.length_cons, Nat.succ_mul]
      have h1 := h x (List.mem_cons_self ..)
      have h2 := ih (fun y hy => h y (List.mem_cons_of_mem _ hy))
      omega
  have h1 := this hs hc
  have h2 : hs.length ≤ 30 := by rw [← hX, List.length_map] at hl; exact hl
  omega
theorem lens_few {w : World} {B np ng : Nat} {vp vg vi : Value} {hs : List PpH} {gs : List Bool} {idx : List RefD} {ps : List PageD} (h : TrOwn w B np ng vp vg vi hs gs idx) (hX : hs.map (·.X) = ps) (hp : ∀ p ∈ ps, p.es.length ≤ 32 ∧ p.ds.length ≤ 12) : ∀ x ∈ hs, x.s0.n ≤ 1048576 ∧ x.s1.n ≤ 1048576 := fun x hx => by
  obtain ⟨k, hk, rfl⟩ := List.getElem_of_mem hx
  have hm : hs[k].X ∈ ps := by rw [← hX]; exact List.mem_map_of_mem (List.getElem_mem hk)
  have := hp _ hm
  obtain ⟨r1, r2⟩ := PpIn.sub h.pg.reads hk
  have e1 := rowC_len r1
  have e2 := rowC_len r2
  omega
set_option maxRecDepth 100000 in
set_option maxHeartbeats 16000000 in
theorem lawTreeRun_any (a : Option Addr) (n c : Nat) (acts : List AcT) (w : World) (hI : YRow w a n acts) (hn : n ≤ maxLen) (hl : ∀ i (hi : i < acts.length), acts[i].key.size ≤ maxLen ∧ acts[i].val.size ≤ maxLen) :
    Calls Tryz.prog 5 #[.slice a n c] w fun e w' => e = .returned (.bool true) ∧ Below w.heap.size w w' := by
  have P := hide hI
  have CON := hide (fun W e W' (h : RtRes acts W e W') => rt_con h)
  have hf := rt_few acts
  obtain ⟨T, hT⟩ : ∃ T, T = rtT acts := ⟨_, rfl⟩
  obtain ⟨CS, hCS⟩ : ∃ x, x = rtN acts := ⟨_, rfl⟩
  obtain ⟨C, hC⟩ : ∃ x, x = rtC acts := ⟨_, rfl⟩
  rw [← hT, ← hCS, ← hC] at CON
  rw [← hT, ← hCS] at hf
  clear hT hCS hC
  obtain ⟨PS, GS, IX⟩ := T
  simp only at CON hf
  obtain ⟨nP, hnP⟩ : ∃ x, x = PS.length := ⟨_, rfl⟩
  obtain ⟨nG, hnG⟩ : ∃ x, x = GS.length := ⟨_, rfl⟩
  obtain ⟨nI, hnI⟩ : ∃ x, x = IX.length := ⟨_, rfl⟩
  obtain ⟨nC, hnC⟩ : ∃ x, x = CS.length := ⟨_, rfl⟩
  rw [← hnP, ← hnG, ← hnI, ← hnC] at CON
  rw [← hnP, ← hnG, ← hnI, ← hnC] at hf
  have LP := hide hnP.symm
  have LG := hide hnG.symm
  have LI := hide hnI.symm
  have LC := hide hnC.symm
  have FEW := hide hf.2.2.2.2
  have b1 : nP ≤ 30 := hf.1
  have b2 : nG ≤ 30 := hf.2.1
  have b3 : nI ≤ 30 := hf.2.2.1
  have b4 : nC ≤ 150 := hf.2.2.2.1
  have hCC : (C != C) = false := by simp
  clear hnP hnG hnI hnC hf
  have B := Below.refl w.heap.size w
  have HS := hide (szTreeActS_any a n c acts 1048576 w (by omega) (by omega) hI hn hl)
  clear hl hI
  go_enter Tryz.func5, Tryz.ntmps5
  go_wp2_with fail
  refine (unhide HS).mono ?_
  rintro e w_z ⟨q0, rfl, hq, hb⟩
  replace B := B.trans (hb.mono B.size)
  have zz_w_z := hb.size
  clear hb HS
  rcases hq with rfl | ⟨q1, q2, q3⟩
  · go_wp2_with fail
    go_ret
    exact ⟨rfl, B⟩
  have hn2 : n ≤ 1048576 := by omega
  clear hn
  go_wp2_with fail
  refine (toTreeActS_any a n c acts w_z hn2 ((unhide P).below B)).mono ?_
  rintro e w_t ⟨g_t, rfl, oo, hb⟩
  obtain ⟨a_t, ha_t⟩ : ∃ x, x = some (⟨g_t, 0, none⟩ : Addr) := ⟨_, rfl⟩
  rw [← ha_t] at oo ⊢
  replace B := B.trans (hb.mono B.size)
  have zz_w_t := hb.size
  clear hb
  have O_t := hide oo
  have M_t := fun i h => World.ownsRow.lt (unhide O_t) i h
  clear oo ha_t
  go_wp2_with fail
  refine (specTreeRun_any a_t n n acts w_t (yrow_of_owns (unhide O_t)) hn2).mono ?_
  intro e w_w hcon
  obtain ⟨a1_w, c1_w, a2_w, c2_w, a3_w, c3_w, ac_w, cc_w, hs_w, rfl, oo, mm, hb⟩ := unhide CON _ _ _ hcon
  clear hcon
  replace O_t := hide (rb_ownsRow_below (unhide O_t) hb)
  replace B := B.trans (hb.mono B.size)
  have zz_w_w := hb.size
  clear hb
  have MM_w := hide mm
  have O_w := hide oo
  have M_w := fun i h => (unhide O_w).lt i h
  clear oo mm
  have hb : Below w_w.heap.size w_w (w_w.alloc (.cells #[.slice a1_w nP c1_w, .slice a2_w nG c2_w, .slice a3_w nI c3_w] 29)) := (Below.refl _ _).alloc (Nat.le_refl _) _
  have K_w := hide (heap_alloc_new w_w (.cells #[.slice a1_w nP c1_w, .slice a2_w nG c2_w, .slice a3_w nI c3_w] 29))
  have sz_w : (w_w.alloc (.cells #[.slice a1_w nP c1_w, .slice a2_w nG c2_w, .slice a3_w nI c3_w] 29)).heap.size = w_w.heap.size + 1 := by simp
  replace O_t := hide (rb_ownsRow_below (unhide O_t) hb)
  replace O_w := hide ((unhide O_w).below hb)
  replace B := B.trans (hb.mono B.size)
  have zz_b_w := hb.size
  clear hb
  go_upto_region 6 with fail
  generalize w_w.alloc (.cells #[.slice a1_w nP c1_w, .slice a2_w nG c2_w, .slice a3_w nI c3_w] 29) = b_w at *
  clear O_t M_t
  go_wp2_with fail
  refine (toTreeActS_any a n c acts b_w hn2 ((unhide P).below B)).mono ?_
  rintro e w_x ⟨g_x, rfl, oo, hb⟩
  obtain ⟨a_x, ha_x⟩ : ∃ x, x = some (⟨g_x, 0, none⟩ : Addr) := ⟨_, rfl⟩
  rw [← ha_x] at oo ⊢
  replace O_w := hide ((unhide O_w).below hb)
  replace K_w := hide ((hb.block _ (by omega)).trans (unhide K_w))
  replace B := B.trans (hb.mono B.size)
  have zz_w_x := hb.size
  clear hb
  have O_x := hide oo
  have M_x := fun i h => World.ownsRow.lt (unhide O_x) i h
  clear oo ha_x
  go_wp2_with fail
  refine (implTreeRun_any a_x n n acts w_x (yrow_of_owns (unhide O_x)) hn2).mono ?_
  intro e w_g hcon
  obtain ⟨a1_g, c1_g, a2_g, c2_g, a3_g, c3_g, ac_g, cc_g, hs_g, rfl, oo, mm, hb⟩ := unhide CON _ _ _ hcon
  clear hcon
  replace O_w := hide ((unhide O_w).below hb)
  replace K_w := hide ((hb.block _ (by omega)).trans (unhide K_w))
  replace O_x := hide (rb_ownsRow_below (unhide O_x) hb)
  replace B := B.trans (hb.mono B.size)
  have zz_w_g := hb.size
  clear hb
  have MM_g := hide mm
  have O_g := hide oo
  have M_g := fun i h => (unhide O_g).lt i h
  clear oo mm
  have hb : Below w_g.heap.size w_g (w_g.alloc (.cells #[.slice a1_g nP c1_g, .slice a2_g nG c2_g, .slice a3_g nI c3_g] 29)) := (Below.refl _ _).alloc (Nat.le_refl _) _
  have K_g := hide (heap_alloc_new w_g (.cells #[.slice a1_g nP c1_g, .slice a2_g nG c2_g, .slice a3_g nI c3_g] 29))
  have sz_g : (w_g.alloc (.cells #[.slice a1_g nP c1_g, .slice a2_g nG c2_g, .slice a3_g nI c3_g] 29)).heap.size = w_g.heap.size + 1 := by simp
  replace O_w := hide ((unhide O_w).below hb)
  replace K_w := hide ((hb.block _ (by omega)).trans (unhide K_w))
  replace O_x := hide (rb_ownsRow_below (unhide O_x) hb)
  replace O_g := hide ((unhide O_g).below hb)
  replace B := B.trans (hb.mono B.size)
  have zz_b_g := hb.size
  clear hb
  go_upto_region 8 with fail
  generalize w_g.alloc (.cells #[.slice a1_g nP c1_g, .slice a2_g nG c2_g, .slice a3_g nI c3_g] 29) = b_g at *
  have p0_g := (heap_at (unhide K_g) 0).1
  have p1_g := (heap_at (unhide K_g) 1).1
  have p2_g := (heap_at (unhide K_g) 2).1
  have p0_w := (heap_at (unhide K_w) 0).1
  have p1_w := (heap_at (unhide K_w) 1).1
  have p2_w := (heap_at (unhide K_w) 2).1
  go_wp2_with fail
  refine (eqTree_any _ _ nP _ _ _ _ nG _ _ _ _ nI _ _ hs_g hs_w GS IX b_g (unhide O_g).tr.reads (unhide O_w).tr.reads ((unhide MM_w).trans (unhide MM_g).symm) ⟨by omega, by omega, by omega⟩ (lens_few (unhide O_g).tr (unhide MM_g) (unhide FEW))).mono ?_
  rintro e e1 ⟨rfl, hb⟩
  clear p0_g p1_g p2_g
  clear p0_w p1_w p2_w
  replace O_w := hide ((unhide O_w).below hb)
  replace K_w := hide ((hb.block _ (by omega)).trans (unhide K_w))
  replace O_x := hide (rb_ownsRow_below (unhide O_x) hb)
  replace O_g := hide ((unhide O_g).below hb)
  replace K_g := hide ((hb.block _ (by omega)).trans (unhide K_g))
  replace B := B.trans (hb.mono B.size)
  have zz_e1 := hb.size
  clear hb
  go_wp2_with fail
  refine (eqIntS_C ac_g ac_w nC cc_g cc_w CS e1 (by unfold maxLen; omega) (unhide LC) (rowC_of_owns (unhide O_g).cod) (rowC_of_owns (unhide O_w).cod)).mono ?_
  rintro e e2 ⟨rfl, hb⟩
  replace O_w := hide ((unhide O_w).below hb)
  replace K_w := hide ((hb.block _ (by omega)).trans (unhide K_w))
  replace O_x := hide (rb_ownsRow_below (unhide O_x) hb)
  replace O_g := hide ((unhide O_g).below hb)
  replace K_g := hide ((hb.block _ (by omega)).trans (unhide K_g))
  replace B := B.trans (hb.mono B.size)
  have zz_e2 := hb.size
  clear hb
  go_wp2_with fail
  refine (toTreeActS_any a n c acts e2 hn2 ((unhide P).below B)).mono ?_
  rintro e w_s ⟨g_s, rfl, oo, hb⟩
  obtain ⟨a_s, ha_s⟩ : ∃ x, x = some (⟨g_s, 0, none⟩ : Addr) := ⟨_, rfl⟩
  rw [← ha_s] at oo ⊢
  replace O_w := hide ((unhide O_w).below hb)
  replace K_w := hide ((hb.block _ (by omega)).trans (unhide K_w))
  replace O_x := hide (rb_ownsRow_below (unhide O_x) hb)
  replace O_g := hide ((unhide O_g).below hb)
  replace K_g := hide ((hb.block _ (by omega)).trans (unhide K_g))
  replace B := B.trans (hb.mono B.size)
  have zz_w_s := hb.size
  clear hb
  have O_s := hide oo
  have M_s := fun i h => World.ownsRow.lt (unhide O_s) i h
  clear oo ha_s
  go_wp2_with fail
  refine (eqTreeActS_any a_x a_s n n n acts w_s hn2 (yrow_of_owns (unhide O_x)) (yrow_of_owns (unhide O_s))).mono ?_
  rintro e e9 ⟨rfl, hb⟩
  replace O_w := hide ((unhide O_w).below hb)
  replace K_w := hide ((hb.block _ (by omega)).trans (unhide K_w))
  replace O_x := hide (rb_ownsRow_below (unhide O_x) hb)
  replace O_g := hide ((unhide O_g).below hb)
  replace K_g := hide ((hb.block _ (by omega)).trans (unhide K_g))
  replace O_s := hide (rb_ownsRow_below (unhide O_s) hb)
  replace B := B.trans (hb.mono B.size)
  have zz_e9 := hb.size
  clear hb
  clear O_s M_s
  go_wp2_with fail
  refine (markTreeActS_any _ a_x n n 1 acts e9 (by omega) (by omega) (unhide O_x)).mono ?_
  rintro e wn ⟨rfl, oo, hgr⟩
  have hw := WrB.of_grown hgr
  clear oo hgr
  replace O_w := hide ((unhide O_w).wr hw (fun i hi hp => by have h1 := M_w i hi; have h2 := M_x i hp; omega))
  replace K_w := hide ((hw.block _ (by omega) (fun hp => by have h2 := M_x _ hp; omega)).trans (unhide K_w))
  replace O_g := hide ((unhide O_g).wr hw (fun i hi hp => by have h1 := M_g i hi; have h2 := M_x i hp; omega))
  replace K_g := hide ((hw.block _ (by omega) (fun hp => by have h2 := M_x _ hp; omega)).trans (unhide K_g))
  replace B := B.trans (hw.below (fun i hp => by have := M_x i hp; omega) B.size)
  have zz_wn := hw.size
  clear hw
  clear O_x M_x
  have hk0 : ¬ (((1 + 4 * n : Nat) : Int) < 0) := by omega
  generalize 1 + 4 * n = km at *
  have p0_g := (heap_at (unhide K_g) 0).1
  have p1_g := (heap_at (unhide K_g) 1).1
  have p2_g := (heap_at (unhide K_g) 2).1
  have p0_w := (heap_at (unhide K_w) 0).1
  have p1_w := (heap_at (unhide K_w) 1).1
  have p2_w := (heap_at (unhide K_w) 2).1
  go_wp2_with fail
  refine (eqTree_any _ _ nP _ _ _ _ nG _ _ _ _ nI _ _ hs_g hs_w GS IX wn (unhide O_g).tr.reads (unhide O_w).tr.reads ((unhide MM_w).trans (unhide MM_g).symm) ⟨by omega, by omega, by omega⟩ (lens_few (unhide O_g).tr (unhide MM_g) (unhide FEW))).mono ?_
  rintro e e3 ⟨rfl, hb⟩
  clear p0_g p1_g p2_g
  clear p0_w p1_w p2_w
  replace O_w := hide ((unhide O_w).below hb)
  replace K_w := hide ((hb.block _ (by omega)).trans (unhide K_w))
  replace O_g := hide ((unhide O_g).below hb)
  replace K_g := hide ((hb.block _ (by omega)).trans (unhide K_g))
  replace B := B.trans (hb.mono B.size)
  have zz_e3 := hb.size
  clear hb
  go_wp2_with fail
  refine (eqIntS_C ac_g ac_w nC cc_g cc_w CS e3 (by unfold maxLen; omega) (unhide LC) (rowC_of_owns (unhide O_g).cod) (rowC_of_owns (unhide O_w).cod)).mono ?_
  rintro e e4 ⟨rfl, hb⟩
  replace O_w := hide ((unhide O_w).below hb)
  replace K_w := hide ((hb.block _ (by omega)).trans (unhide K_w))
  replace O_g := hide ((unhide O_g).below hb)
  replace K_g := hide ((hb.block _ (by omega)).trans (unhide K_g))
  replace B := B.trans (hb.mono B.size)
  have zz_e4 := hb.size
  clear hb
  have hkg := cnt_le (unhide MM_g) (by rw [unhide LP]; exact b1) (unhide FEW) 1
  have htk : trK 1 hs_g GS IX ≤ 9000 := by unfold trK; rw [unhide LG, unhide LI]; omega
  have p0_g := (heap_at (unhide K_g) 0).1
  have p1_g := (heap_at (unhide K_g) 1).1
  have p2_g := (heap_at (unhide K_g) 2).1
  go_wp2_with fail
  clear p0_g p1_g p2_g
  refine (markTree_any _ nP nG nI _ _ _ 1 _ _ _ hs_g GS IX e4 (by omega) (by omega) (unhide O_g).tr).mono ?_
  rintro e wm ⟨rfl, oo, hw⟩
  have G2 := hide ((unhide O_g).mark1 oo hw)
  have KG := fun i (hp : TrBl (.slice a1_g nP c1_g) (.slice a2_g nG c2_g) (.slice a3_g nI c3_g) hs_g i) => M_g i (.inl hp)
  clear oo
  replace O_w := hide ((unhide O_w).wr hw (fun i hi hp => by have h1 := M_w i hi; have h2 := KG i hp; omega))
  replace K_w := hide ((hw.block _ (by omega) (fun hp => by have h2 := KG _ hp; omega)).trans (unhide K_w))
  replace K_g := hide ((hw.block _ (by omega) (fun hp => by have h2 := KG _ hp; omega)).trans (unhide K_g))
  replace B := B.trans (hw.below (fun i hp => by have := KG i hp; omega) B.size)
  have zz_wm := hw.size
  clear hw
  clear KG O_g
  have O_g := G2
  clear G2
  obtain ⟨kt, hkt⟩ : ∃ kt, kt = trK 1 hs_g GS IX := ⟨_, rfl⟩
  rw [← hkt] at htk ⊢
  have HKT := hide hkt
  clear hkt
  go_wp2_with fail
  refine (markIntS_own _ ac_g nC cc_g kt CS wm (by omega) (unhide LC) (unhide O_g).cod).mono ?_
  rintro e wp ⟨rfl, oo, hw⟩
  have G2 := hide ((unhide O_g).mark2 (cs' := in_Mks kt nC) oo hw)
  have KG := fun i (hp : (Value.slice ac_g nC cc_g).ownBlock = some i) => M_g i (.inr hp)
  clear oo
  replace O_w := hide ((unhide O_w).wr hw (fun i hi hp => by have h1 := M_w i hi; have h2 := KG i hp; omega))
  replace K_w := hide ((hw.block _ (by omega) (fun hp => by have h2 := KG _ hp; omega)).trans (unhide K_w))
  replace K_g := hide ((hw.block _ (by omega) (fun hp => by have h2 := KG _ hp; omega)).trans (unhide K_g))
  replace B := B.trans (hw.below (fun i hp => by have := KG i hp; omega) B.size)
  have zz_wp := hw.size
  clear hw
  clear KG O_g M_g
  have O_g := G2
  have M_g := fun i h => (unhide O_g).lt i h
  clear G2
  have hm0 : ¬ (((kt + nC : Nat) : Int) < 0) := by omega
  have hmm : (((kt + nC : Nat) : Int) != ((kt + nC : Nat) : Int)) = false := by simp
  have hm1 : ¬ ((kt : Int) < 0) := by omega
  have p0_g := (heap_at (unhide K_g) 0).1
  have p1_g := (heap_at (unhide K_g) 1).1
  have p2_g := (heap_at (unhide K_g) 2).1
  go_wp2_with fail
  clear p0_g p1_g p2_g
  refine (heldTree_any _ nP _ _ nG _ _ nI _ 1 hs_g GS IX wp (by omega) (by rw [← unhide HKT]; omega) (unhide LG) (unhide LI) (unhide O_g).tr.reads).mono ?_
  rw [← unhide HKT]
  rintro e e5 ⟨rfl, hb⟩
  replace O_w := hide ((unhide O_w).below hb)
  replace K_w := hide ((hb.block _ (by omega)).trans (unhide K_w))
  replace K_g := hide ((hb.block _ (by omega)).trans (unhide K_g))
  replace O_g := hide ((unhide O_g).below hb)
  replace B := B.trans (hb.mono B.size)
  have zz_e5 := hb.size
  clear hb
  go_wp2_with fail
  refine (heldIntS_C ac_g nC cc_g kt e5 (by omega) (rowC_of_owns (unhide O_g).cod)).mono ?_
  rintro e e6 ⟨rfl, hb⟩
  replace O_w := hide ((unhide O_w).below hb)
  replace K_w := hide ((hb.block _ (by omega)).trans (unhide K_w))
  replace K_g := hide ((hb.block _ (by omega)).trans (unhide K_g))
  replace O_g := hide ((unhide O_g).below hb)
  replace B := B.trans (hb.mono B.size)
  have zz_e6 := hb.size
  clear hb
  go_wp2_with fail
  refine (toTreeActS_any a n c acts e6 hn2 ((unhide P).below B)).mono ?_
  rintro e w_y ⟨g_y, rfl, oo, hb⟩
  obtain ⟨a_y, ha_y⟩ : ∃ x, x = some (⟨g_y, 0, none⟩ : Addr) := ⟨_, rfl⟩
  rw [← ha_y] at oo ⊢
  replace O_w := hide ((unhide O_w).below hb)
  replace K_w := hide ((hb.block _ (by omega)).trans (unhide K_w))
  replace K_g := hide ((hb.block _ (by omega)).trans (unhide K_g))
  replace O_g := hide ((unhide O_g).below hb)
  replace B := B.trans (hb.mono B.size)
  have zz_w_y := hb.size
  clear hb
  have O_y := hide oo
  have M_y := fun i h => World.ownsRow.lt (unhide O_y) i h
  clear oo ha_y
  go_wp2_with fail
  refine (implTreeRun_any a_y n n acts w_y (yrow_of_owns (unhide O_y)) hn2).mono ?_
  intro e w_h hcon
  obtain ⟨a1_h, c1_h, a2_h, c2_h, a3_h, c3_h, ac_h, cc_h, hs_h, rfl, oo, mm, hb⟩ := unhide CON _ _ _ hcon
  clear hcon
  replace O_w := hide ((unhide O_w).below hb)
  replace K_w := hide ((hb.block _ (by omega)).trans (unhide K_w))
  replace K_g := hide ((hb.block _ (by omega)).trans (unhide K_g))
  replace O_g := hide ((unhide O_g).below hb)
  replace O_y := hide (rb_ownsRow_below (unhide O_y) hb)
  replace B := B.trans (hb.mono B.size)
  have zz_w_h := hb.size
  clear hb
  have MM_h := hide mm
  have O_h := hide oo
  have M_h := fun i h => (unhide O_h).lt i h
  clear oo mm
  have hb : Below w_h.heap.size w_h (w_h.alloc (.cells #[.slice a1_h nP c1_h, .slice a2_h nG c2_h, .slice a3_h nI c3_h] 29)) := (Below.refl _ _).alloc (Nat.le_refl _) _
  have K_h := hide (heap_alloc_new w_h (.cells #[.slice a1_h nP c1_h, .slice a2_h nG c2_h, .slice a3_h nI c3_h] 29))
  have sz_h : (w_h.alloc (.cells #[.slice a1_h nP c1_h, .slice a2_h nG c2_h, .slice a3_h nI c3_h] 29)).heap.size = w_h.heap.size + 1 := by simp
  replace O_w := hide ((unhide O_w).below hb)
  replace K_w := hide ((hb.block _ (by omega)).trans (unhide K_w))
  replace K_g := hide ((hb.block _ (by omega)).trans (unhide K_g))
  replace O_g := hide ((unhide O_g).below hb)
  replace O_y := hide (rb_ownsRow_below (unhide O_y) hb)
  replace O_h := hide ((unhide O_h).below hb)
  replace B := B.trans (hb.mono B.size)
  have zz_b_h := hb.size
  clear hb
  go_upto_region 29 with fail
  generalize w_h.alloc (.cells #[.slice a1_h nP c1_h, .slice a2_h nG c2_h, .slice a3_h nI c3_h] 29) = b_h at *
  clear O_y M_y
  have p0_h := (heap_at (unhide K_h) 0).1
  have p1_h := (heap_at (unhide K_h) 1).1
  have p2_h := (heap_at (unhide K_h) 2).1
  have p0_w := (heap_at (unhide K_w) 0).1
  have p1_w := (heap_at (unhide K_w) 1).1
  have p2_w := (heap_at (unhide K_w) 2).1
  go_wp2_with fail
  refine (eqTree_any _ _ nP _ _ _ _ nG _ _ _ _ nI _ _ hs_h hs_w GS IX b_h (unhide O_h).tr.reads (unhide O_w).tr.reads ((unhide MM_w).trans (unhide MM_h).symm) ⟨by omega, by omega, by omega⟩ (lens_few (unhide O_h).tr (unhide MM_h) (unhide FEW))).mono ?_
  rintro e e7 ⟨rfl, hb⟩
  clear p0_h p1_h p2_h
  clear p0_w p1_w p2_w
  replace O_w := hide ((unhide O_w).below hb)
  replace K_w := hide ((hb.block _ (by omega)).trans (unhide K_w))
  replace K_g := hide ((hb.block _ (by omega)).trans (unhide K_g))
  replace O_g := hide ((unhide O_g).below hb)
  replace O_h := hide ((unhide O_h).below hb)
  replace K_h := hide ((hb.block _ (by omega)).trans (unhide K_h))
  replace B := B.trans (hb.mono B.size)
  have zz_e7 := hb.size
  clear hb
  go_wp2_with fail
  refine (eqIntS_C ac_h ac_w nC cc_h cc_w CS e7 (by unfold maxLen; omega) (unhide LC) (rowC_of_owns (unhide O_h).cod) (rowC_of_owns (unhide O_w).cod)).mono ?_
  rintro e e8 ⟨rfl, hb⟩
  replace O_w := hide ((unhide O_w).below hb)
  replace K_w := hide ((hb.block _ (by omega)).trans (unhide K_w))
  replace K_g := hide ((hb.block _ (by omega)).trans (unhide K_g))
  replace O_g := hide ((unhide O_g).below hb)
  replace O_h := hide ((unhide O_h).below hb)
  replace K_h := hide ((hb.block _ (by omega)).trans (unhide K_h))
  replace B := B.trans (hb.mono B.size)
  have zz_e8 := hb.size
  clear hb
  have p0_g := (heap_at (unhide K_g) 0).1
  have p1_g := (heap_at (unhide K_g) 1).1
  have p2_g := (heap_at (unhide K_g) 2).1
  go_wp2_with fail
  clear p0_g p1_g p2_g
  refine (heldTree_any _ nP _ _ nG _ _ nI _ 1 hs_g GS IX e8 (by omega) (by rw [← unhide HKT]; omega) (unhide LG) (unhide LI) (unhide O_g).tr.reads).mono ?_
  rw [← unhide HKT]
  rintro e e9 ⟨rfl, hb⟩
  replace O_w := hide ((unhide O_w).below hb)
  replace K_w := hide ((hb.block _ (by omega)).trans (unhide K_w))
  replace K_g := hide ((hb.block _ (by omega)).trans (unhide K_g))
  replace O_g := hide ((unhide O_g).below hb)
  replace O_h := hide ((unhide O_h).below hb)
  replace K_h := hide ((hb.block _ (by omega)).trans (unhide K_h))
  replace B := B.trans (hb.mono B.size)
  have zz_e9 := hb.size
  clear hb
  go_wp2_with fail
  refine (heldIntS_C ac_g nC cc_g kt e9 (by omega) (rowC_of_owns (unhide O_g).cod)).mono ?_
  rintro e e10 ⟨rfl, hb⟩
  replace O_w := hide ((unhide O_w).below hb)
  replace K_w := hide ((hb.block _ (by omega)).trans (unhide K_w))
  replace K_g := hide ((hb.block _ (by omega)).trans (unhide K_g))
  replace O_g := hide ((unhide O_g).below hb)
  replace O_h := hide ((unhide O_h).below hb)
  replace K_h := hide ((hb.block _ (by omega)).trans (unhide K_h))
  replace B := B.trans (hb.mono B.size)
  have zz_e10 := hb.size
  clear hb
  go_wp2_with fail
  go_ret
  exact ⟨rfl, B⟩
end Go.Proofs.YtnnanffjgoncgaaGreat

namespace Go.Proofs.YtnnanffjgoncgaaGreat
open Go.RowKit Go.ChangeShapes Go.WideShapes

set_option maxRecDepth 100000 in
theorem open_ylist {H : Type} {enc : TypeId × Value → H} {w : World} {base : Nat} {spare : Nat → Bool} {held : Bool} {v : Value} {fuel : Nat} {x : DataW H × List MemPlace}
    (h : DataW.trod enc Tryz.prog w base spare held fuel 54 [v] = some x) : ∃ a l c ds, v = .slice a l c ∧ YRow w a l ds ∧ l ≤ maxLen ∧ ∀ i (hi : i < ds.length), ds[i].key.size ≤ maxLen ∧ ds[i].val.size ≤ maxLen := by
  rcases Deep.open_slice Tryz.underlying54 h with ⟨hcs, _⟩ | ⟨y, l, c, m, n, D, Pl, hcs, hb, hl, hm, hmm, _, hel⟩
  · simp at hcs
    subst hcs
    exact ⟨none, 0, 0, [], rfl, ⟨rfl, fun i hi => absurd hi (Nat.not_lt_zero _)⟩, by unfold maxLen; omega, fun i hi => absurd hi (Nat.not_lt_zero _)⟩
  simp at hcs
  subst hcs
  have hlm : l ≤ m := by rw [hmm]; split <;> omega
  have cN : Tryz.prog.cellsOf 90 = 4 := by kernel_rfl
  rw [cN] at hel
  have one : ∀ i, i < l → ∃ d : AcT, (d.key.size ≤ maxLen ∧ d.val.size ≤ maxLen) ∧ ∃ b off, some y = some (⟨b, off, none⟩ : Addr) ∧ w.cell? ⟨b, off + i * 4, none⟩ = some (.int .i64 d.kind) ∧ w.cell? ⟨b, off + i * 4 + 1, none⟩ = some (.int .i64 d.id) ∧ w.cell? ⟨b, off + i * 4 + 2, none⟩ = some (.string d.key) ∧ w.cell? ⟨b, off + i * 4 + 3, none⟩ = some (.string d.val) := by
    intro i hi
    obtain ⟨cs, hc, ht⟩ := hel i (by omega)
    obtain ⟨_, hlen, hcell⟩ := World.cells?_some hc
    obtain ⟨y0, y1, y2, y3, n', _, _, h0, h1, h2, h3⟩ := Go.Joins.trod_struct4 Tryz.underlying90 ht
    obtain ⟨k0, e0, _, w0⟩ := DataW.trod_int Tryz.underlying3 h0
    obtain ⟨k1, e1, _, w1⟩ := DataW.trod_int Tryz.underlying3 h1
    obtain ⟨k2, e2, _, w2⟩ := DataW.trod_string Tryz.underlying9 h2
    obtain ⟨k3, e3, _, w3⟩ := DataW.trod_string Tryz.underlying9 h3
    match cs, hlen with
    | [v0, v1, v2, v3], _ =>
      have si : Tryz.prog.cellsOf 3 = 1 := by kernel_rfl
      have ss : Tryz.prog.cellsOf 9 = 1 := by kernel_rfl
      have e0' : v0 = .int .i64 k0 := by simpa [si, ss] using e0
      have e1' : v1 = .int .i64 k1 := by simpa [si, ss] using e1
      have e2' : v2 = .string k2 := by simpa [si, ss] using e2
      have e3' : v3 = .string k3 := by simpa [si, ss] using e3
      subst e0' e1' e2' e3'
      have g0 := hcell 0 (by omega)
      have g1 := hcell 1 (by omega)
      have g2 := hcell 2 (by omega)
      have g3 := hcell 3 (by omega)
      rw [Deep.add_add] at g0 g1 g2 g3
      obtain ⟨b, off, spot⟩ := y
      have hs : spot = none := by
        by_cases hi0 : i = 0
        · have := World.cell?_spot (g0.trans rfl)
          simpa [Addr.add, hi0] using this
        · obtain ⟨cs', hc', ht'⟩ := hel 0 (by omega)
          obtain ⟨_, hlen', hcell'⟩ := World.cells?_some hc'
          have h0' := hcell' 0 (by omega)
          match cs', hlen' with
          | [u0, u1, u2, u3], _ =>
            have := World.cell?_spot (h0'.trans rfl)
            simpa [Addr.add] using this
      subst hs
      have e : ∀ j, (⟨b, off, none⟩ : Addr).add j = ⟨b, off + j, none⟩ := fun j => by unfold Addr.add; split <;> simp_all
      rw [e] at g0 g1 g2 g3
      exact ⟨⟨k0, k1, k2, k3⟩, ⟨w2, w3⟩, b, off, rfl, by simpa using g0, by simpa [Nat.add_assoc] using g1, by simpa [Nat.add_assoc] using g2, by simpa [Nat.add_assoc] using g3⟩
  have : ∀ i, ∃ d : AcT, i < l → (d.key.size ≤ maxLen ∧ d.val.size ≤ maxLen) ∧ ∃ b off, some y = some (⟨b, off, none⟩ : Addr) ∧ w.cell? ⟨b, off + i * 4, none⟩ = some (.int .i64 d.kind) ∧ w.cell? ⟨b, off + i * 4 + 1, none⟩ = some (.int .i64 d.id) ∧ w.cell? ⟨b, off + i * 4 + 2, none⟩ = some (.string d.key) ∧ w.cell? ⟨b, off + i * 4 + 3, none⟩ = some (.string d.val) := fun i => by
    by_cases hi : i < l
    · obtain ⟨d, hd⟩ := one i hi
      exact ⟨d, fun _ => hd⟩
    · exact ⟨noY, fun h => absurd h hi⟩
  obtain ⟨F, hF⟩ := Classical.skolem.1 this
  refine ⟨some y, l, c, (List.range l).map F, rfl, ⟨by simp, fun i hi => ?_⟩, by omega, fun i hi => ?_⟩
  · have hi' : i < l := by simpa using hi
    simpa using (hF i hi').2
  · have hi' : i < l := by simpa using hi
    simpa using (hF i hi').1
end Go.Proofs.YtnnanffjgoncgaaGreat

namespace Go.Proofs.YtnnanffjgoncgaaGreat.fnExactTreeRunFrame
open Go.ChangeShapes Go.WideShapes Go.ChangeAt Go.RowKit
open Go.ChangeMaps (open_string shut_string)
set_option linter.unusedVariables false

theorem own : ownKnob Tryz.prog.godebug = none := by kernel_rfl
theorem laidOut : laidOutB Tryz.prog = true := by kernel_rfl

set_option maxRecDepth 100000 in
theorem lifted (os : Os) (started : os.Started) (H : Type) (enc : TypeId × Value → H) :
    ReturnsInHanded {} Tryz.checked os 5 .any (Rows.fnExactTreeRunSpec.pre6 enc Tryz.prog Tryz.f5 Rows.fnExactTreeRunRow.domain false) (Rows.fnExactTreeRunSpec.post enc Tryz.prog Tryz.f5 false true false false) := by
  refine returnsInHanded_of_change (C := Tryz.checked) own started (by kernel_rfl) Tryz.func5
    (ChangeSpec.witness6 (enc := enc) (C := Tryz.checked) false ⟨#[], #[.slice none 0 0], []⟩ 8 (by kernel_rfl) (by kernel_rfl) (by kernel_rfl) (by kernel_rfl)) ?_
  intro W base args ds gs before hval0 hW _ _
  have hval : ∀ (j : Nat) t v, Tryz.f5.params[j]? = some t → args[j]? = some v → Value.okWide Tryz.prog W .any base t v := hval0
  have hW' := hW
  obtain ⟨p, q, hA0, hV, rfl, _, _⟩ := hW
  have hA : DataW.TrodAll enc Tryz.prog W 0 (fun _ => true) true Tryz.f5.params.toList args.toList ds p := hA0
  rw [Tryz.params5] at hA hval
  obtain ⟨v0, vs0, d0, ds0, p0, q0, hargs, rfl, rfl, h0, r0⟩ := trodAll_cons hA
  obtain ⟨rfl, rfl, rfl⟩ := trodAll_nil r0
  obtain rfl : args = #[v0] := by cases args; simp_all
  obtain ⟨rfl, rfl⟩ := trodVars_none hV
  have k0 := h0
  have lt0 : ∀ x ∈ p0, x.block < W.heap.size := by obtain ⟨m, hm⟩ := k0; exact DataW.trod_lt m _ _ _ hm
  obtain ⟨a0, len0, cap0, rfl⟩ := okWide_slice Tryz.underlying54 (hval 0 54 v0 rfl rfl)
  obtain ⟨z0, w0, wn0, wt0⟩ : ∃ ds, YRow W a0 len0 ds ∧ len0 ≤ maxLen ∧ ∀ i (hi : i < ds.length), ds[i].key.size ≤ maxLen ∧ ds[i].val.size ≤ maxLen := by
    obtain ⟨fuel, hf⟩ := h0
    obtain ⟨a', l', c', ds, e, r⟩ := open_ylist hf
    cases e
    exact ⟨ds, r⟩
  clear hA0 hval0
  refine (lawTreeRun_any a0 len0 cap0 z0 W w0 wn0 wt0).mono fun e W' ⟨he, bel⟩ => ?_
  subst he
  exact ⟨_, rfl, _, _, _, [], _, [], hW', trodAll_mk1 (shut_bool Tryz.underlying4 _), (trodAll_cons_mk (Below.trod laidOut (by kernel_rfl) (of_decide_eq_true (by kernel_rfl)) k0 bel lt0) trodAll_mk0), rfl, bel.frame _, fun h => by cases h⟩

theorem over : Rows.fnExactTreeRunRow.holds Tryz.pinned (OpenSpec.ofChange Rows.fnExactTreeRunSpec) :=
  OpenClaim.holds_of_wide 5 Tryz.f5 rfl rfl rfl rfl rfl rfl rfl ⟨rfl, rfl, rfl, rfl, rfl⟩ rfl rfl rfl rfl rfl (by kernel_rfl) Tryz.func5 (by kernel_rfl)
    (of_decide_eq_true (by kernel_rfl)) (by unfold Func.isWrapper; first | (rw [if_pos (by decide +kernel)]; kernel_rfl) | (rw [if_neg (by decide +kernel)]; exact ⟨rfl, rfl⟩))
    (fun os started H enc _ => lifted os started H enc)

end Go.Proofs.YtnnanffjgoncgaaGreat.fnExactTreeRunFrame
namespace Go.Proofs.YtnnanffjgoncgaaGreat
/-- THE STATEMENT. -/
theorem fnExactTreeRun_proved : Rows.FnExactTreeRunSaid := fnExactTreeRunFrame.over
#print axioms fnExactTreeRun_proved
end Go.Proofs.YtnnanffjgoncgaaGreat
