/-
  VrM, SeD, SeM, VrH, FnM, FnH, SeN, HmA, HmB, PuW, VzM, PrK, VaA in one.
-/
import Derived.Test.YtdnjgbckkmbmfaaGreatVrC
import Derived.Test.YtdnjgbckkmbmfaaGreatXrAll2
import Derived.Deep.RegionWith
import Derived.Test.YtdnjgbckkmbmfaaGreatSeA
import Derived.Test.YtdnjgbckkmbmfaaGreatRowR
import Derived.Test.YtdnjgbckkmbmfaaGreatFnC
import Derived.Test.YtdnjgbckkmbmfaaGreatVrT
import Derived.Test.YtdnjgbckkmbmfaaGreatVrL
import Derived.Test.YtdnjgbckkmbmfaaGreatVaG
import Derived.Test.YtdnjgbckkmbmfaaGreatWrT
import Derived.Test.YtdnjgbckkmbmfaaGreatTakes
import Derived.Maps.OwnOps
import Derived.Maps.OwnSet
import Derived.MapKept
import Derived.Deep.Cut
import Derived.Test.YtdnjgbckkmbmfaaGreatVaL
namespace Go.Proofs.YtdnjgbckkmbmfaaGreat
open Go.RowKit

def markV (k0 i : Nat) : VerD := ⟨mt (k0 + 4 * i) ByteArray.empty, ((k0 + 4 * i + 1 : Nat) : Int), mt (k0 + 4 * i + 2) ByteArray.empty, decide ((k0 + 4 * i + 3) % 3 = 0)⟩
def markVs (k0 n : Nat) : List VerD := (List.range n).map (markV k0)
theorem markVs_len (k0 n : Nat) : (markVs k0 n).length = n := by simp [markVs]
set_option maxRecDepth 100000 in
set_option maxHeartbeats 4000000 in
theorem markVersionS_some (B g n c k0 : Nat) (ds : List VerD) (w : World) (hp : 0 < k0) (hn : 4 * n + k0 ≤ 9999990) (h1 : VOwns w B (.slice (some ⟨g, 0, none⟩) n c) ds) :
    Calls Tryz.prog 56 #[.slice (some ⟨g, 0, none⟩) n c, .int .i64 k0] w fun e w' => e = .returned (.int .i64 (k0 + 4 * n)) ∧ VOwns w' B (.slice (some ⟨g, 0, none⟩) n c) (markVs k0 n) ∧ w.grownBy w' (some g) := by
  have L := hide (vrow_of_owns h1).1
  have H := hide h1
  clear h1
  go_enter Tryz.func56, Tryz.ntmps56
  go_wp2_with fail
  go_loopw [1, 5] (fun q i wr => ∃ k : Nat, k ≤ n ∧ i = .int .i64 k ∧ q = .int .i64 (k0 + 4 * k) ∧ Hid (VOwns wr B (.slice (some ⟨g, 0, none⟩) n c) (markVs k0 k ++ ds.drop k)) ∧ Hid (w.grownBy wr (some g))) (fun _ i _ => n - (intOf i).toNat)
  case atStart => exact ⟨0, Nat.zero_le _, rfl, by simp, unhide H, rb_grownBy_below (Below.refl _ _)⟩
  case round =>
    clear H
    obtain ⟨k, hk, rfl, rfl, hB, hw⟩ := hrel
    by_cases hlt : k < n
    · have hke : k < ds.length := by have := unhide L; omega
      have hlx : k < (markVs k0 k ++ ds.drop k).length := by rw [List.length_append, markVs_len, List.length_drop]; omega
      have SM := hide (show (markVs k0 k ++ ds.drop k).set k (markV k0 k) = markVs k0 (k + 1) ++ ds.drop (k + 1) from rb_set_mark (markV k0) ds k hke)
      have HXN := hide (vrow_of_owns (unhide hB)).1
      have O0 := hide (show wr.ownsRow B 43 4 (.slice (some ⟨g, 0, none⟩) n c) n (vcs (markVs k0 k ++ ds.drop k)) by have := unhide hB; unfold VOwns at this; rwa [unhide HXN] at this)
      generalize markVs k0 k ++ ds.drop k = xs at *
      have G0 := hw
      clear hB hw
      go_wp2_with fail
      refine (markText_at (k0 + 4 * k) _ wr (by omega) (by omega) (by omega)).mono ?_
      rintro e w10 ⟨rfl, hb0⟩
      replace O0 := hide (rb_ownsRow_below (unhide O0) hb0)
      replace G0 := hide (rb_grown_trans (unhide G0) (rb_grownBy_below hb0))
      clear hb0
      generalize hm0 : mt (k0 + 4 * k) ByteArray.empty = t0 at *
      obtain ⟨u0, e0⟩ := rb_ownsRow_some (unhide O0) (j := k * 4) (by omega)
      have f0 := (unhide O0).frozenAt (k * 4)
      obtain ⟨o0, g0⟩ := World.ownsRow.stored (unhide O0) (k * 4) (.string t0)
      have O1 := hide o0
      have G1 := hide (rb_grown_trans (unhide G0) g0)
      clear o0 g0 O0 G0
      obtain ⟨u1, e1⟩ := rb_ownsRow_some (unhide O1) (j := k * 4 + 1) (by omega)
      have f1 := (unhide O1).frozenAt (k * 4 + 1)
      obtain ⟨o1, g1⟩ := World.ownsRow.stored (unhide O1) (k * 4 + 1) (.int .i64 (k0 + 4 * k + 1))
      have O2 := hide o1
      have G2 := hide (rb_grown_trans (unhide G1) g1)
      clear o1 g1 O1 G1
      go_wp2_with fail
      generalize w10.setCell ⟨g, k * 4, none⟩ (.string t0) = w100 at *
      generalize w100.setCell ⟨g, k * 4 + 1, none⟩ (.int .i64 (k0 + 4 * k + 1)) = w101 at *
      clear e0 f0
      clear e1 f1
      refine (markText_at (k0 + 4 * k + 2) _ w101 (by omega) (by omega) (by omega)).mono ?_
      rintro e w12 ⟨rfl, hb2⟩
      replace O2 := hide (rb_ownsRow_below (unhide O2) hb2)
      replace G2 := hide (rb_grown_trans (unhide G2) (rb_grownBy_below hb2))
      clear hb2
      generalize hm2 : mt (k0 + 4 * k + 2) ByteArray.empty = t2 at *
      obtain ⟨u2, e2⟩ := rb_ownsRow_some (unhide O2) (j := k * 4 + 2) (by omega)
      have f2 := (unhide O2).frozenAt (k * 4 + 2)
      obtain ⟨o2, g2⟩ := World.ownsRow.stored (unhide O2) (k * 4 + 2) (.string t2)
      have O3 := hide o2
      have G3 := hide (rb_grown_trans (unhide G2) g2)
      clear o2 g2 O2 G2
      obtain ⟨u3, e3⟩ := rb_ownsRow_some (unhide O3) (j := k * 4 + 3) (by omega)
      have f3 := (unhide O3).frozenAt (k * 4 + 3)
      obtain ⟨o3, g3⟩ := World.ownsRow.stored (unhide O3) (k * 4 + 3) (.bool (decide (((k0 : Int) + 4 * k + 1 + 1 + 1) % 3 = 0)))
      have O4 := hide o3
      have G4 := hide (rb_grown_trans (unhide G3) g3)
      clear o3 g3 O3 G3
      have O9 := hide (show VOwns ((w12.setCell ⟨g, k * 4 + 2, none⟩ (.string t2)).setCell ⟨g, k * 4 + 3, none⟩ (.bool (decide (((k0 : Int) + 4 * k + 1 + 1 + 1) % 3 = 0)))) B (.slice (some ⟨g, 0, none⟩) n c) (markVs k0 (k + 1) ++ ds.drop (k + 1)) by
        rw [← unhide SM]
        unfold VOwns
        rw [vcs_set, List.length_set, unhide HXN]
        have := unhide O4
        have he1 : ((k0 + 4 * k + 1 : Nat) : Int) = (k0 : Int) + 4 * k + 1 := by omega
        have he3 : decide ((k0 + 4 * k + 3) % 3 = 0) = decide (((k0 : Int) + 4 * k + 1 + 1 + 1) % 3 = 0) := by rw [decide_eq_decide]; omega
        unfold markV
        simp only [hm0, he1, hm2, he3]
        exact this)
      clear O4
      go_wp2_with fail
      all_goals
        go_roundw
        case rel => exact ⟨k + 1, by omega, by go_num, by go_num, unhide O9, unhide G4⟩
        case measure => simp [intOf]; omega
    · obtain rfl : k = n := by omega
      have P := hide (show VOwns wr B (.slice (some ⟨g, 0, none⟩) k c) (markVs k0 k) by
        have := unhide hB
        rw [List.drop_of_length_le (by rw [unhide L]; exact Nat.le_refl _), List.append_nil] at this
        exact this)
      go_wp2_with fail
      go_ret
      exact ⟨rfl, unhide P, unhide hw⟩
theorem markVersionS_none (a : Option Addr) (c : Nat) (k0 : Int) (w : World) :
    Calls Tryz.prog 56 #[.slice a 0 c, .int .i64 k0] w fun e w' => e = .returned (.int .i64 k0) ∧ w' = w := by
  go_enter Tryz.func56, Tryz.ntmps56
  go_wp2_with fail
  refine wp_loop_rounds 1 ?_
  rw [rounds_succ]
  go_wp2_with fail
  go_ret
  exact ⟨rfl, rfl⟩
theorem markVersionS_any (B : Nat) (a : Option Addr) (n c k0 : Nat) (ds : List VerD) (w : World) (hp : 0 < k0) (hn : 4 * n + k0 ≤ 9999990) (h1 : VOwns w B (.slice a n c) ds) :
    Calls Tryz.prog 56 #[.slice a n c, .int .i64 k0] w fun e w' => e = .returned (.int .i64 ((k0 + 4 * n : Nat) : Int)) ∧ VOwns w' B (.slice a n c) (markVs k0 n) ∧ w.grownBy w' (Value.slice a n c).ownBlock := by
  rcases h1.2 with ⟨e, hl⟩ | ⟨g, cap, cur, e, _⟩
  · injection e with e1 e2 e3
    subst e1 e2 e3
    refine (markVersionS_none none 0 k0 w).mono ?_
    rintro e w' ⟨rfl, rfl⟩
    exact ⟨by simp, World.ownsRow_nil _ _ _ _, rb_grownBy_below (Below.refl _ _)⟩
  · injection e with e1 e2 e3
    subst e1 e2 e3
    refine (markVersionS_some B g _ _ k0 ds w hp hn h1).mono ?_
    rintro e w' ⟨rfl, h2, h3⟩
    exact ⟨by simp, h2, h3⟩
end Go.Proofs.YtdnjgbckkmbmfaaGreat

namespace Go.Proofs.YtdnjgbckkmbmfaaGreat
open Go.RowKit

abbrev verMk (k n : Nat) : List VerD := markVs k n
theorem verMk_len (k n : Nat) : (verMk k n).length = n := markVs_len k n
theorem markVersionS_own (B : Nat) (a : Option Addr) (n c k0 : Nat) (d : List VerD) (w : World) (hn : 0 < k0 ∧ 4 * n + k0 ≤ 9999990) (hd : d.length = n) (h1 : w.ownsRow B 43 4 (.slice a n c) n (vcs d)) :
    Calls Tryz.prog 56 #[.slice a n c, .int .i64 (k0 : Int)] w fun e w' => e = .returned (.int .i64 ((k0 + 4 * n : Nat) : Int)) ∧ w'.ownsRow B 43 4 (.slice a n c) n (vcs (verMk k0 n)) ∧ WrB (fun i => (Value.slice a n c).ownBlock = some i) w w' := by
  subst hd
  refine (markVersionS_any B a _ c k0 d w hn.1 hn.2 h1).mono ?_
  rintro e w' ⟨rfl, h2, h3⟩
  refine ⟨rfl, ?_, WrB.of_grown h3⟩
  have h := h2
  unfold VOwns at h
  rwa [markVs_len] at h
end Go.Proofs.YtdnjgbckkmbmfaaGreat

namespace Go.Proofs.YtdnjgbckkmbmfaaGreat
open Go.RowKit

def seMkX (k : Nat) (X : SesD) : SesD := ⟨decide (((k : Int)) % 3 = 0), (k : Int) + 1, verMk (k + 2) (X.ws.length)⟩
def seMk (k : Nat) (h : SeH) : SeH := ⟨seMkX k h.X, h.s0⟩
def seCnt (h : SeH) : Nat := 2 + 4 * h.X.ws.length
theorem seown_n {w : World} {B t s n m : Nat} {a : Option Addr} {c : Nat} {cs : List Value} (h : w.ownsRow B t s (.slice a n c) m cs) : n = m := by
  rcases h.2 with ⟨e, rfl⟩ | ⟨g, cap, cur, e, _⟩
  · injection e
  · injection e
set_option maxRecDepth 100000 in
set_option maxHeartbeats 4000000 in
theorem markSessionS_some (B g n c k0 : Nat) (hs : List SeH) (w : World) (_hp : 0 < k0) (hk0 : kG seCnt k0 hs ≤ 9999990) (h1 : NOwn w B 55 3 (.slice (some ⟨g, 0, none⟩) n c) n (hs.map seEl)) :
    Calls Tryz.prog 58 #[.slice (some ⟨g, 0, none⟩) n c, .int .i64 (k0 : Int)] w fun e w' => e = .returned (.int .i64 ((kG seCnt k0 hs : Nat) : Int)) ∧ NOwn w' B 55 3 (.slice (some ⟨g, 0, none⟩) n c) n ((mkG seCnt seMk k0 hs).map seEl) ∧ WrB (NBl (.slice (some ⟨g, 0, none⟩) n c) (hs.map seEl)) w w' := by
  have L := hide (show hs.length = n by have := h1.len; simpa using this)
  have H := hide h1
  have KT := hide (fun j => Nat.le_trans (kG_take seCnt k0 hs j) hk0)
  have KM := hide (fun j => kG_mono seCnt k0 (hs.take j))
  have hnb : n ≤ maxLen := by
    rcases h1.row.2 with ⟨e, _⟩ | ⟨_, cap, _, e, _, _, h1, h2, _⟩
    · cases e
    · omega
  unfold maxLen at hnb
  clear h1
  go_enter Tryz.func58, Tryz.ntmps58
  go_wp2_with fail
  go_loopw [1, 5] (fun q i wr => ∃ j : Nat, j ≤ n ∧ i = .int .i64 j ∧ q = .int .i64 ((kG seCnt k0 (hs.take j) : Nat) : Int) ∧ Hid (NOwn wr B 55 3 (.slice (some ⟨g, 0, none⟩) n c) n ((haG seCnt seMk k0 hs j).map seEl)) ∧ Hid (WrB (NBl (.slice (some ⟨g, 0, none⟩) n c) (hs.map seEl)) w wr)) (fun _ i _ => n - (intOf i).toNat)
  case atStart => exact ⟨0, Nat.zero_le _, rfl, by simp [kG], unhide H, WrB.same _ _⟩
  case round =>
    clear H
    obtain ⟨j, hj, rfl, rfl, hI, hw⟩ := hrel
    by_cases hlt : j < n
    · have hjl : j < hs.length := by rw [unhide L]; exact hlt
      have hkb := unhide KT (j + 1)
      rw [rb_take_snoc hs j hjl, kG_snoc] at hkb
      have hkm := unhide KM j
      have HKK := hide (show kG seCnt k0 (hs.take (j + 1)) = kG seCnt k0 (hs.take j) + seCnt hs[j] by rw [rb_take_snoc hs j hjl, kG_snoc])
      have hjh : j < ((haG seCnt seMk k0 hs j).map seEl).length := by rw [List.length_map, haG_len _ _ _ _ _ (by omega)]; exact hjl
      have EJ := hide (show ((haG seCnt seMk k0 hs j).map seEl)[j]? = some (seEl hs[j]) by rw [List.getElem?_map, haG_at seCnt seMk hjl]; rfl)
      have FIN := hide (show (haG seCnt seMk k0 hs (j + 1)).map seEl = ((haG seCnt seMk k0 hs j).map seEl).set j (seEl (seMk (kG seCnt k0 (hs.take j)) hs[j])) by rw [haG_step seCnt seMk hjl, List.map_set])
      have BL := hide (show ∀ i a y, (seEl hs[j]).sb[a]? = some y → y.v.ownBlock = some i → NBl (.slice (some ⟨g, 0, none⟩) n c) (hs.map seEl) i from fun i a y hy hi => .inr ⟨j, a, y, by unfold sbAt; rw [seEl_at hjl]; exact hy, hi⟩)
      obtain ⟨EE, hEE⟩ : ∃ E, E = seEl (seMk (kG seCnt k0 (hs.take j)) hs[j]) := ⟨_, rfl⟩
      obtain ⟨CC, hCC⟩ : ∃ C, C = seCnt hs[j] := ⟨_, rfl⟩
      rw [← hEE] at FIN
      rw [← hCC] at hkb HKK
      generalize hES : (haG seCnt seMk k0 hs j).map seEl = es at *
      clear hES
      generalize kG seCnt k0 (hs.take j) = K at *
      generalize hs[j] = pd at *
      obtain ⟨X, ⟨a0, n0, c0⟩⟩ := pd
      unfold seEl seMk seMkX at hEE
      unfold seCnt at hCC
      have EJ' := hide (show es[j]? = some ⟨[.bool X.o, .int .i64 X.t, .slice a0 n0 c0], [⟨43, 4, X.ws.length, .slice a0 n0 c0, vcs X.ws⟩]⟩ from unhide EJ)
      have BL' := hide (show ∀ (i a : Nat) (y : Sb), ([⟨43, 4, X.ws.length, .slice a0 n0 c0, vcs X.ws⟩] : List Sb)[a]? = some y → y.v.ownBlock = some i → NBl (.slice (some ⟨g, 0, none⟩) n c) (hs.map seEl) i from unhide BL)
      clear EJ BL
      have EJ := EJ'
      have BL := BL'
      clear EJ' BL'
      simp only at hEE hCC
      obtain ⟨bk, hbk⟩ : ∃ b, b = decide ((K : Int) % 3 = 0) := ⟨_, rfl⟩
      have bq : ((K : Int) % 3 == 0) = bk := by rw [hbk]; rfl
      rw [← hbk] at hEE
      clear hbk
      obtain rfl : n0 = X.ws.length := seown_n ((unhide hI).dat j 0 _ (by unfold sbAt; rw [unhide EJ]; rfl))
      have O0 := hide (show NOwn wr B 55 3 (.slice (some ⟨g, 0, none⟩) n c) n (es.set j ⟨[.bool X.o, .int .i64 X.t, .slice a0 (X.ws.length) c0], [⟨43, 4, X.ws.length, .slice a0 (X.ws.length) c0, vcs X.ws⟩]⟩) from by
        obtain ⟨hl, he⟩ := List.getElem?_eq_some_iff.1 (unhide EJ)
        rw [← he, List.set_getElem_self]
        exact unhide hI)
      generalize hn0 : X.ws.length = n0 at *
      have HN0 := hide hn0
      clear hn0
      generalize X.ws = D0 at *
      generalize X.o = x0 at *
      generalize X.t = x1 at *
      have HEE := hide hEE
      have HCC := hide hCC
      rw [hCC] at hkb
      clear hEE hCC
      have G0 := hw
      clear hI hw EJ
      have e0 : wr.cell? ⟨g, j * 3, none⟩ = some (.bool x0) := (unhide O0).cell (i := j) (j := 0) (List.getElem?_set_self hjh) rfl
      have f0 := (unhide O0).free (j * 3)
      have P0 := (unhide O0).setHd (i := j) (j := 0) (List.getElem?_set_self hjh) (by decide) (.bool bk)
      rw [List.set_set] at P0
      have O1 := hide (show NOwn (wr.setCell ⟨g, j * 3, none⟩ (.bool bk)) B 55 3 (.slice (some ⟨g, 0, none⟩) n c) n (es.set j ⟨[.bool bk, .int .i64 x1, .slice a0 n0 c0], [⟨43, 4, n0, .slice a0 n0 c0, vcs D0⟩]⟩) from P0.1)
      replace G0 := hide ((unhide G0).seq (show WrB _ wr (wr.setCell ⟨g, j * 3, none⟩ (.bool bk)) from P0.2.weak (fun i hi => .inl (by rw [hi]; rfl))))
      clear P0 O0
      have e1 : (wr.setCell ⟨g, j * 3, none⟩ (.bool bk)).cell? ⟨g, j * 3 + 1, none⟩ = some (.int .i64 x1) := (unhide O1).cell (i := j) (j := 1) (List.getElem?_set_self hjh) rfl
      have f1 := (unhide O1).free (j * 3 + 1)
      have P1 := (unhide O1).setHd (i := j) (j := 1) (List.getElem?_set_self hjh) (by decide) (.int .i64 ((K : Int) + 1))
      rw [List.set_set] at P1
      have O2 := hide (show NOwn ((wr.setCell ⟨g, j * 3, none⟩ (.bool bk)).setCell ⟨g, j * 3 + 1, none⟩ (.int .i64 ((K : Int) + 1))) B 55 3 (.slice (some ⟨g, 0, none⟩) n c) n (es.set j ⟨[.bool bk, .int .i64 ((K : Int) + 1), .slice a0 n0 c0], [⟨43, 4, n0, .slice a0 n0 c0, vcs D0⟩]⟩) from P1.1)
      replace G0 := hide ((unhide G0).seq (show WrB _ (wr.setCell ⟨g, j * 3, none⟩ (.bool bk)) ((wr.setCell ⟨g, j * 3, none⟩ (.bool bk)).setCell ⟨g, j * 3 + 1, none⟩ (.int .i64 ((K : Int) + 1))) from P1.2.weak (fun i hi => .inl (by rw [hi]; rfl))))
      clear P1 O1
      have HM := hide (show NOwn ((wr.setCell ⟨g, j * 3, none⟩ (.bool bk)).setCell ⟨g, j * 3 + 1, none⟩ (.int .i64 ((K : Int) + 1))) B 55 3 (.slice (some ⟨g, 0, none⟩) n c) n (es.set j ⟨[.bool bk, .int .i64 ((K : Int) + 1), .slice a0 n0 c0], [⟨43, 4, n0, .slice a0 n0 c0, vcs D0⟩]⟩) from unhide O2)
      clear O2
      have y0 : ((wr.setCell ⟨g, j * 3, none⟩ (.bool bk)).setCell ⟨g, j * 3 + 1, none⟩ (.int .i64 ((K : Int) + 1))).cell? ⟨g, j * 3 + 2, none⟩ = some (.slice a0 n0 c0) := (unhide HM).cell (i := j) (j := 2) (List.getElem?_set_self hjh) rfl
      have C0 := hide (markVersionS_own B a0 n0 c0 (K + 2) D0 ((wr.setCell ⟨g, j * 3, none⟩ (.bool bk)).setCell ⟨g, j * 3 + 1, none⟩ (.int .i64 ((K : Int) + 1))) (by omega) (unhide HN0) ((unhide HM).dat j 0 _ (by unfold sbAt; rw [List.getElem?_set_self hjh]; rfl)))
      rw [show ((K + 2 : Nat) : Int) = (K : Int) + 1 + 1 by omega] at C0
      go_wp2_with fail
      generalize ((wr.setCell ⟨g, j * 3, none⟩ (.bool bk)).setCell ⟨g, j * 3 + 1, none⟩ (.int .i64 ((K : Int) + 1))) = u1 at *
      clear e0 f0
      clear e1 f1
      clear y0
      refine (unhide C0).mono ?_
      rintro e v0 ⟨rfl, ho, hw2⟩
      have Q := (unhide HM).setSb (i := j) (a := 0) (List.getElem?_set_self hjh) rfl (x' := ⟨43, 4, n0, .slice a0 n0 c0, vcs (verMk (K + 2) n0)⟩) rfl ho hw2
      rw [List.set_set] at Q
      replace HM := hide (show NOwn v0 B 55 3 (.slice (some ⟨g, 0, none⟩) n c) n (es.set j ⟨[.bool bk, .int .i64 ((K : Int) + 1), .slice a0 n0 c0], [⟨43, 4, n0, .slice a0 n0 c0, vcs (verMk (K + 2) n0)⟩]⟩) from Q)
      replace G0 := hide ((unhide G0).seq (hw2.weak (fun i hi => unhide BL i 0 _ rfl hi)))
      clear Q ho hw2 C0
      have R := hide (show NOwn v0 B 55 3 (.slice (some ⟨g, 0, none⟩) n c) n ((haG seCnt seMk k0 hs (j + 1)).map seEl) from by
        rw [unhide FIN, unhide HEE]
        have h := unhide HM
        simp only [verMk_len]
        exact h)
      have KE := hide (show ((K + 2 + 4 * n0 : Nat) : Int) = ((kG seCnt k0 (hs.take (j + 1)) : Nat) : Int) by rw [unhide HKK, unhide HCC];  omega)
      clear HM FIN BL HKK HEE HCC
      go_wp2_with fail
      go_roundw
      case rel => exact ⟨j + 1, by omega, by go_num, by rw [← unhide KE]; go_num, unhide R, unhide G0⟩
      case measure => simp [intOf]; omega
    · obtain rfl : j = n := by omega
      have Z := hide (show NOwn wr B 55 3 (.slice (some ⟨g, 0, none⟩) j c) j ((mkG seCnt seMk k0 hs).map seEl) by
        have h := unhide hI
        rwa [← unhide L, haG_all, unhide L] at h)
      have ZK := hide (show kG seCnt k0 (hs.take j) = kG seCnt k0 hs by rw [List.take_of_length_le (by rw [unhide L]; exact Nat.le_refl _)])
      go_wp2_with fail
      go_ret
      exact ⟨ret_int (by rw [unhide ZK]), unhide Z, unhide hw⟩
theorem markSessionS_nil (k0 : Int) (w : World) : Calls Tryz.prog 58 #[.slice none 0 0, .int .i64 k0] w fun e w' => e = .returned (.int .i64 k0) ∧ w' = w := by
  go_enter Tryz.func58, Tryz.ntmps58
  go_wp2_with fail
  refine wp_loop_rounds 1 ?_
  rw [rounds_succ]
  go_wp2_with fail
  go_ret
  exact ⟨rfl, rfl⟩
theorem markSessionS_any (B : Nat) (a : Option Addr) (n c k0 : Nat) (hs : List SeH) (w : World) (_hp : 0 < k0) (hk0 : kG seCnt k0 hs ≤ 9999990) (h1 : NOwn w B 55 3 (.slice a n c) n (hs.map seEl)) :
    Calls Tryz.prog 58 #[.slice a n c, .int .i64 (k0 : Int)] w fun e w' => e = .returned (.int .i64 ((kG seCnt k0 hs : Nat) : Int)) ∧ NOwn w' B 55 3 (.slice a n c) n ((mkG seCnt seMk k0 hs).map seEl) ∧ WrB (NBl (.slice a n c) (hs.map seEl)) w w' := by
  rcases h1.row.2 with ⟨e, hl⟩ | ⟨g, cap, cur, e, _⟩
  · injection e with e1 e2 e3
    subst e1 e2 e3
    obtain rfl : hs = [] := by have := h1.len; simpa using this
    refine (markSessionS_nil k0 w).mono ?_
    rintro e w' ⟨rfl, rfl⟩
    exact ⟨rfl, h1, WrB.same _ _⟩
  · injection e with e1 e2 e3
    subst e1
    exact markSessionS_some B g n c k0 hs w _hp hk0 h1
end Go.Proofs.YtdnjgbckkmbmfaaGreat

namespace Go.Proofs.YtdnjgbckkmbmfaaGreat
open Go.RowKit

set_option maxRecDepth 100000 in
set_option maxHeartbeats 4000000 in
theorem heldVersionS_any (a : Option Addr) (n c k0 : Nat) (w : World) (hp : 0 < k0) (hn : 4 * n + k0 ≤ 9999990) (h1 : VRow w a n (markVs k0 n)) :
    Calls Tryz.prog 60 #[.slice a n c, .int .i64 k0] w fun e w' => e = .returned (.int .i64 ((k0 + 4 * n : Nat) : Int)) ∧ Below w.heap.size w w' := by
  have H := hide h1
  clear h1
  go_enter Tryz.func60, Tryz.ntmps60
  go_wp2_with fail
  go_loopw [1, 5] (fun q i wr => ∃ k : Nat, k ≤ n ∧ i = .int .i64 k ∧ q = .int .i64 (k0 + 4 * k) ∧ Below w.heap.size w wr) (fun _ i _ => n - (intOf i).toNat)
  case atStart => exact ⟨0, Nat.zero_le _, rfl, by simp, Below.refl _ _⟩
  case round =>
    obtain ⟨k, hk, rfl, rfl, hb⟩ := hrel
    by_cases hlt : k < n
    · have hk2 : k < (markVs k0 n).length := by rw [markVs_len]; exact hlt
      have em : (markVs k0 n)[k] = markV k0 k := by simp [markVs]
      obtain ⟨b, off, rfl, d0, d1, d2, d3⟩ := ((unhide H).below hb).2 k hk2
      rw [em] at d0 d1 d2 d3
      unfold markV at d0 d1 d2 d3
      simp only at d0 d1 d2 d3
      have hsz := hb.size
      have hbw : b < wr.heap.size := cell_lt d0
      have e1 : ((k0 + 4 * k + 1 : Nat) : Int) = (k0 : Int) + 4 * k + 1 := by omega
      have e3 : decide ((k0 + 4 * k + 3) % 3 = 0) = decide (((k0 : Int) + 4 * k + 1 + 1 + 1) % 3 = 0) := by rw [decide_eq_decide]; omega
      rw [e1] at d1
      rw [e3] at d3
      have D1 := hide (show ∀ w', Below wr.heap.size wr w' → w'.cell? ⟨b, off + k * 4 + 1, none⟩ = some (.int .i64 ((k0 : Int) + 4 * k + 1)) ∧ w'.cell? ⟨b, off + k * 4 + 2, none⟩ = some (.string (mt (k0 + 4 * k + 2) ByteArray.empty)) ∧ w'.cell? ⟨b, off + k * 4 + 3, none⟩ = some (.bool (decide (((k0 : Int) + 4 * k + 1 + 1 + 1) % 3 = 0))) ∧ w'.cell? ⟨b, off + k * 4, none⟩ = some (.string (mt (k0 + 4 * k) ByteArray.empty)) ∧ b < w'.heap.size from fun w' hb' => ⟨(hb'.cell (p := ⟨b, off + k * 4 + 1, none⟩) hbw).trans d1, (hb'.cell (p := ⟨b, off + k * 4 + 2, none⟩) hbw).trans d2, (hb'.cell (p := ⟨b, off + k * 4 + 3, none⟩) hbw).trans d3, (hb'.cell (p := ⟨b, off + k * 4, none⟩) hbw).trans d0, by have := hb'.size; omega⟩)
      clear em d1 d2 d3 e1 e3
      go_wp2_with fail
      go_region_with (go_at_call 55; refine (markText_at (k0 + 4 * k) _ _ (by omega) (by omega) (by omega)).mono ?_; rintro e w2 ⟨rfl, hb2⟩; replace hb2 : Below wr.heap.size wr w2 := (by first | exact hb2 | exact rb_bel_of_drew hb2 | exact rb_bel_of_drewN hb2); obtain ⟨x1, x2, x3, x0, hbx⟩ := unhide D1 w2 hb2)
      all_goals
        have bA : Below w.heap.size w w2 := hb.trans (hb2.mono hsz)
        have hs2 := bA.size
        have D2 := hide (show ∀ w', Below w2.heap.size w2 w' → w'.cell? ⟨b, off + k * 4 + 2, none⟩ = some (.string (mt (k0 + 4 * k + 2) ByteArray.empty)) ∧ w'.cell? ⟨b, off + k * 4 + 3, none⟩ = some (.bool (decide (((k0 : Int) + 4 * k + 1 + 1 + 1) % 3 = 0))) from fun w' hb' => ⟨(hb'.cell (p := ⟨b, off + k * 4 + 2, none⟩) hbx).trans x2, (hb'.cell (p := ⟨b, off + k * 4 + 3, none⟩) hbx).trans x3⟩)
        clear hb hb2 d0 x0 x3 D1
        generalize mt (k0 + 4 * k) ByteArray.empty = t0 at *
        go_wp2_with fail
        go_region_with (go_at_call 55; refine (markText_at (k0 + 4 * k + 2) _ _ (by omega) (by omega) (by omega)).mono ?_; rintro e w3 ⟨rfl, hb3⟩; replace hb3 : Below w2.heap.size w2 w3 := (by first | exact hb3 | exact rb_bel_of_drew hb3 | exact rb_bel_of_drewN hb3); obtain ⟨y2, y3⟩ := unhide D2 w3 hb3)
        all_goals
          have bB : Below w.heap.size w w3 := bA.trans (hb3.mono hs2)
          clear bA hb3 D2 x1 x2
          generalize mt (k0 + 4 * k + 2) ByteArray.empty = t1 at *
          by_cases h3 : ((k0 : Int) + 4 * k + 1 + 1 + 1) % 3 = 0
          · rw [decide_eq_true h3] at y3
            go_wp2_with fail
            go_roundw
            case rel => exact ⟨k + 1, by omega, by go_num, by go_num, bB⟩
            case measure => simp [intOf]; omega
          · rw [decide_eq_false h3] at y3
            go_wp2_with fail
            go_roundw
            case rel => exact ⟨k + 1, by omega, by go_num, by go_num, bB⟩
            case measure => simp [intOf]; omega
    · obtain rfl : k = n := by omega
      go_wp2_with fail
      go_ret
      exact ⟨by simp, hb⟩
end Go.Proofs.YtdnjgbckkmbmfaaGreat

namespace Go.Proofs.YtdnjgbckkmbmfaaGreat
open Go.RowKit

def markF (k0 i : Nat) : FenD := ⟨mt (k0 + 3 * i) ByteArray.empty, mt (k0 + 3 * i + 1) ByteArray.empty, ((k0 + 3 * i + 2 : Nat) : Int)⟩
def markFs (k0 n : Nat) : List FenD := (List.range n).map (markF k0)
theorem markFs_len (k0 n : Nat) : (markFs k0 n).length = n := by simp [markFs]
set_option maxRecDepth 100000 in
set_option maxHeartbeats 4000000 in
theorem markFenceS_some (B g n c k0 : Nat) (ds : List FenD) (w : World) (hp : 0 < k0) (hn : 3 * n + k0 ≤ 9999990) (h1 : FOwns w B (.slice (some ⟨g, 0, none⟩) n c) ds) :
    Calls Tryz.prog 57 #[.slice (some ⟨g, 0, none⟩) n c, .int .i64 k0] w fun e w' => e = .returned (.int .i64 (k0 + 3 * n)) ∧ FOwns w' B (.slice (some ⟨g, 0, none⟩) n c) (markFs k0 n) ∧ w.grownBy w' (some g) := by
  have L := hide (frow_of_owns h1).1
  have H := hide h1
  clear h1
  go_enter Tryz.func57, Tryz.ntmps57
  go_wp2_with fail
  go_loopw [1, 5] (fun q i wr => ∃ k : Nat, k ≤ n ∧ i = .int .i64 k ∧ q = .int .i64 (k0 + 3 * k) ∧ Hid (FOwns wr B (.slice (some ⟨g, 0, none⟩) n c) (markFs k0 k ++ ds.drop k)) ∧ Hid (w.grownBy wr (some g))) (fun _ i _ => n - (intOf i).toNat)
  case atStart => exact ⟨0, Nat.zero_le _, rfl, by simp, unhide H, rb_grownBy_below (Below.refl _ _)⟩
  case round =>
    clear H
    obtain ⟨k, hk, rfl, rfl, hB, hw⟩ := hrel
    by_cases hlt : k < n
    · have hke : k < ds.length := by have := unhide L; omega
      have hlx : k < (markFs k0 k ++ ds.drop k).length := by rw [List.length_append, markFs_len, List.length_drop]; omega
      have SM := hide (show (markFs k0 k ++ ds.drop k).set k (markF k0 k) = markFs k0 (k + 1) ++ ds.drop (k + 1) from rb_set_mark (markF k0) ds k hke)
      have HXN := hide (frow_of_owns (unhide hB)).1
      have O0 := hide (show wr.ownsRow B 85 3 (.slice (some ⟨g, 0, none⟩) n c) n (fcs (markFs k0 k ++ ds.drop k)) by have := unhide hB; unfold FOwns at this; rwa [unhide HXN] at this)
      generalize markFs k0 k ++ ds.drop k = xs at *
      have G0 := hw
      clear hB hw
      go_wp2_with fail
      refine (markText_at (k0 + 3 * k) _ wr (by omega) (by omega) (by omega)).mono ?_
      rintro e w10 ⟨rfl, hb0⟩
      replace O0 := hide (rb_ownsRow_below (unhide O0) hb0)
      replace G0 := hide (rb_grown_trans (unhide G0) (rb_grownBy_below hb0))
      clear hb0
      generalize hm0 : mt (k0 + 3 * k) ByteArray.empty = t0 at *
      obtain ⟨u0, e0⟩ := rb_ownsRow_some (unhide O0) (j := k * 3) (by omega)
      have f0 := (unhide O0).frozenAt (k * 3)
      obtain ⟨o0, g0⟩ := World.ownsRow.stored (unhide O0) (k * 3) (.string t0)
      have O1 := hide o0
      have G1 := hide (rb_grown_trans (unhide G0) g0)
      clear o0 g0 O0 G0
      go_wp2_with fail
      generalize w10.setCell ⟨g, k * 3, none⟩ (.string t0) = w100 at *
      clear e0 f0
      refine (markText_at (k0 + 3 * k + 1) _ w100 (by omega) (by omega) (by omega)).mono ?_
      rintro e w11 ⟨rfl, hb1⟩
      replace O1 := hide (rb_ownsRow_below (unhide O1) hb1)
      replace G1 := hide (rb_grown_trans (unhide G1) (rb_grownBy_below hb1))
      clear hb1
      generalize hm1 : mt (k0 + 3 * k + 1) ByteArray.empty = t1 at *
      obtain ⟨u1, e1⟩ := rb_ownsRow_some (unhide O1) (j := k * 3 + 1) (by omega)
      have f1 := (unhide O1).frozenAt (k * 3 + 1)
      obtain ⟨o1, g1⟩ := World.ownsRow.stored (unhide O1) (k * 3 + 1) (.string t1)
      have O2 := hide o1
      have G2 := hide (rb_grown_trans (unhide G1) g1)
      clear o1 g1 O1 G1
      obtain ⟨u2, e2⟩ := rb_ownsRow_some (unhide O2) (j := k * 3 + 2) (by omega)
      have f2 := (unhide O2).frozenAt (k * 3 + 2)
      obtain ⟨o2, g2⟩ := World.ownsRow.stored (unhide O2) (k * 3 + 2) (.int .i64 (k0 + 3 * k + 1 + 1))
      have O3 := hide o2
      have G3 := hide (rb_grown_trans (unhide G2) g2)
      clear o2 g2 O2 G2
      have O9 := hide (show FOwns ((w11.setCell ⟨g, k * 3 + 1, none⟩ (.string t1)).setCell ⟨g, k * 3 + 2, none⟩ (.int .i64 (k0 + 3 * k + 1 + 1))) B (.slice (some ⟨g, 0, none⟩) n c) (markFs k0 (k + 1) ++ ds.drop (k + 1)) by
        rw [← unhide SM]
        unfold FOwns
        rw [fcs_set, List.length_set, unhide HXN]
        have := unhide O3
        have he2 : ((k0 + 3 * k + 2 : Nat) : Int) = (k0 : Int) + 3 * k + 1 + 1 := by omega
        unfold markF
        simp only [hm0, hm1, he2]
        exact this)
      clear O3
      go_wp2_with fail
      all_goals
        go_roundw
        case rel => exact ⟨k + 1, by omega, by go_num, by go_num, unhide O9, unhide G3⟩
        case measure => simp [intOf]; omega
    · obtain rfl : k = n := by omega
      have P := hide (show FOwns wr B (.slice (some ⟨g, 0, none⟩) k c) (markFs k0 k) by
        have := unhide hB
        rw [List.drop_of_length_le (by rw [unhide L]; exact Nat.le_refl _), List.append_nil] at this
        exact this)
      go_wp2_with fail
      go_ret
      exact ⟨rfl, unhide P, unhide hw⟩
theorem markFenceS_none (a : Option Addr) (c : Nat) (k0 : Int) (w : World) :
    Calls Tryz.prog 57 #[.slice a 0 c, .int .i64 k0] w fun e w' => e = .returned (.int .i64 k0) ∧ w' = w := by
  go_enter Tryz.func57, Tryz.ntmps57
  go_wp2_with fail
  refine wp_loop_rounds 1 ?_
  rw [rounds_succ]
  go_wp2_with fail
  go_ret
  exact ⟨rfl, rfl⟩
theorem markFenceS_any (B : Nat) (a : Option Addr) (n c k0 : Nat) (ds : List FenD) (w : World) (hp : 0 < k0) (hn : 3 * n + k0 ≤ 9999990) (h1 : FOwns w B (.slice a n c) ds) :
    Calls Tryz.prog 57 #[.slice a n c, .int .i64 k0] w fun e w' => e = .returned (.int .i64 ((k0 + 3 * n : Nat) : Int)) ∧ FOwns w' B (.slice a n c) (markFs k0 n) ∧ w.grownBy w' (Value.slice a n c).ownBlock := by
  rcases h1.2 with ⟨e, hl⟩ | ⟨g, cap, cur, e, _⟩
  · injection e with e1 e2 e3
    subst e1 e2 e3
    refine (markFenceS_none none 0 k0 w).mono ?_
    rintro e w' ⟨rfl, rfl⟩
    exact ⟨by simp, World.ownsRow_nil _ _ _ _, rb_grownBy_below (Below.refl _ _)⟩
  · injection e with e1 e2 e3
    subst e1 e2 e3
    refine (markFenceS_some B g _ _ k0 ds w hp hn h1).mono ?_
    rintro e w' ⟨rfl, h2, h3⟩
    exact ⟨by simp, h2, h3⟩
end Go.Proofs.YtdnjgbckkmbmfaaGreat

namespace Go.Proofs.YtdnjgbckkmbmfaaGreat
open Go.RowKit

set_option maxRecDepth 100000 in
set_option maxHeartbeats 4000000 in
theorem heldFenceS_any (a : Option Addr) (n c k0 : Nat) (w : World) (hp : 0 < k0) (hn : 3 * n + k0 ≤ 9999990) (h1 : FRow w a n (markFs k0 n)) :
    Calls Tryz.prog 61 #[.slice a n c, .int .i64 k0] w fun e w' => e = .returned (.int .i64 ((k0 + 3 * n : Nat) : Int)) ∧ Below w.heap.size w w' := by
  have H := hide h1
  clear h1
  go_enter Tryz.func61, Tryz.ntmps61
  go_wp2_with fail
  go_loopw [1, 5] (fun q i wr => ∃ k : Nat, k ≤ n ∧ i = .int .i64 k ∧ q = .int .i64 (k0 + 3 * k) ∧ Below w.heap.size w wr) (fun _ i _ => n - (intOf i).toNat)
  case atStart => exact ⟨0, Nat.zero_le _, rfl, by simp, Below.refl _ _⟩
  case round =>
    obtain ⟨k, hk, rfl, rfl, hb⟩ := hrel
    by_cases hlt : k < n
    · have hk2 : k < (markFs k0 n).length := by rw [markFs_len]; exact hlt
      have em : (markFs k0 n)[k] = markF k0 k := by simp [markFs]
      obtain ⟨b, off, rfl, d0, d1, d2⟩ := ((unhide H).below hb).2 k hk2
      rw [em] at d0 d1 d2
      unfold markF at d0 d1 d2
      simp only at d0 d1 d2
      have hsz := hb.size
      have hbw : b < wr.heap.size := cell_lt d0
      have e2 : ((k0 + 3 * k + 2 : Nat) : Int) = (k0 : Int) + 3 * k + 1 + 1 := by omega
      rw [e2] at d2
      have D1 := hide (show ∀ w', Below wr.heap.size wr w' → w'.cell? ⟨b, off + k * 3 + 1, none⟩ = some (.string (mt (k0 + 3 * k + 1) ByteArray.empty)) ∧ w'.cell? ⟨b, off + k * 3 + 2, none⟩ = some (.int .i64 ((k0 : Int) + 3 * k + 1 + 1)) ∧ w'.cell? ⟨b, off + k * 3, none⟩ = some (.string (mt (k0 + 3 * k) ByteArray.empty)) ∧ b < w'.heap.size from fun w' hb' => ⟨(hb'.cell (p := ⟨b, off + k * 3 + 1, none⟩) hbw).trans d1, (hb'.cell (p := ⟨b, off + k * 3 + 2, none⟩) hbw).trans d2, (hb'.cell (p := ⟨b, off + k * 3, none⟩) hbw).trans d0, by have := hb'.size; omega⟩)
      clear em d1 d2 e2
      go_wp2_with fail
      go_region_with (go_at_call 55; refine (markText_at (k0 + 3 * k) _ _ (by omega) (by omega) (by omega)).mono ?_; rintro e w2 ⟨rfl, hb2⟩; replace hb2 : Below wr.heap.size wr w2 := (by first | exact hb2 | exact rb_bel_of_drew hb2 | exact rb_bel_of_drewN hb2); obtain ⟨x1, x2, x0, hbx⟩ := unhide D1 w2 hb2)
      all_goals
        have bA : Below w.heap.size w w2 := hb.trans (hb2.mono hsz)
        have hs2 := bA.size
        have D2 := hide (show ∀ w', Below w2.heap.size w2 w' → w'.cell? ⟨b, off + k * 3 + 1, none⟩ = some (.string (mt (k0 + 3 * k + 1) ByteArray.empty)) ∧ w'.cell? ⟨b, off + k * 3 + 2, none⟩ = some (.int .i64 ((k0 : Int) + 3 * k + 1 + 1)) from fun w' hb' => ⟨(hb'.cell (p := ⟨b, off + k * 3 + 1, none⟩) hbx).trans x1, (hb'.cell (p := ⟨b, off + k * 3 + 2, none⟩) hbx).trans x2⟩)
        clear hb hb2 d0 x0 x2 D1
        generalize mt (k0 + 3 * k) ByteArray.empty = t0 at *
        go_wp2_with fail
        go_region_with (go_at_call 55; refine (markText_at (k0 + 3 * k + 1) _ _ (by omega) (by omega) (by omega)).mono ?_; rintro e w3 ⟨rfl, hb3⟩; replace hb3 : Below w2.heap.size w2 w3 := (by first | exact hb3 | exact rb_bel_of_drew hb3 | exact rb_bel_of_drewN hb3); obtain ⟨y1, y2⟩ := unhide D2 w3 hb3)
        all_goals
          have bB : Below w.heap.size w w3 := bA.trans (hb3.mono hs2)
          clear bA hb3 D2 x1
          generalize mt (k0 + 3 * k + 1) ByteArray.empty = t1 at *
          go_wp2_with fail
          go_roundw
          case rel => exact ⟨k + 1, by omega, by go_num, by go_num, bB⟩
          case measure => simp [intOf]; omega
    · obtain rfl : k = n := by omega
      go_wp2_with fail
      go_ret
      exact ⟨by simp, hb⟩
end Go.Proofs.YtdnjgbckkmbmfaaGreat

namespace Go.Proofs.YtdnjgbckkmbmfaaGreat
open Go.RowKit

abbrev seMh (k : Nat) (hs : List SeH) : List SeH := mkG seCnt seMk k hs
set_option maxRecDepth 100000 in
set_option maxHeartbeats 8000000 in
theorem heldSessionS_any (a : Option Addr) (n c k0 : Nat) (hs : List SeH) (w : World) (hp : 0 < k0) (hk0 : kG seCnt k0 hs ≤ 9999990) (h1 : SeIn w (.slice a n c) n (seMh k0 hs)) :
    Calls Tryz.prog 62 #[.slice a n c, .int .i64 (k0 : Int)] w fun e w' => e = .returned (.int .i64 ((kG seCnt k0 hs : Nat) : Int)) ∧ Below w.heap.size w w' := by
  have L := hide (show hs.length = n by have := h1.len; rw [List.length_map, mkG_len] at this; exact this)
  have H := hide h1
  have KT := hide (fun j => Nat.le_trans (kG_take seCnt k0 hs j) hk0)
  have KM := hide (fun j => kG_mono seCnt k0 (hs.take j))
  have hlen : n ≤ 9999990 := by
    have h := gd_sum_le (fun _ : SeH => 1) seCnt 0 hs (fun x _ => by show 1 ≤ seCnt x + 0; unfold seCnt; omega)
    have h2 : ∀ l : List SeH, (l.map (fun _ : SeH => 1)).sum = l.length := fun l => by
      induction l with
      | nil => rfl
      | cons x r ih => rw [List.map_cons, List.sum_cons, ih, List.length_cons, Nat.add_comm]
    have h4 := h2 hs
    have h3 := kG_sum seCnt k0 hs
    have := unhide L
    omega
  clear h1 hk0
  go_enter Tryz.func62, Tryz.ntmps62
  go_wp2_with fail
  go_loopw [1, 5] (fun q i wr => ∃ j : Nat, j ≤ n ∧ i = .int .i64 j ∧ q = .int .i64 ((kG seCnt k0 (hs.take j) : Nat) : Int) ∧ Below w.heap.size w wr) (fun _ i _ => n - (intOf i).toNat)
  case atStart => exact ⟨0, Nat.zero_le _, rfl, rfl, Below.refl _ _⟩
  case round =>
    obtain ⟨j, hj, rfl, rfl, hb⟩ := hrel
    by_cases hlt : j < n
    · have hjl : j < hs.length := by rw [unhide L]; exact hlt
      have hkb := unhide KT (j + 1)
      have hkm := unhide KM j
      have KS := hide (show kG seCnt k0 (hs.take (j + 1)) = kG seCnt k0 (hs.take j) + (2 + 4 * hs[j].X.ws.length) by rw [List.take_succ_eq_append_getElem hjl, kG_snoc]; rfl)
      rw [unhide KS] at hkb
      have hml : j < (seMh k0 hs).length := by rw [mkG_len]; exact hjl
      have em : (seMh k0 hs)[j] = seMk (kG seCnt k0 (hs.take j)) hs[j] := by
        have h := mkG_at seCnt seMk k0 hs j hjl
        rw [List.getElem?_eq_getElem hml] at h
        injection h
      have I := (unhide H).below hb
      obtain ⟨b, off, hab, hbl, c0, c1, c2⟩ := SeIn.cells I hml
      have r1 := SeIn.row I hml
      rw [em] at c0 c1 c2 r1
      have e1 : hs[j].s0.n = hs[j].X.ws.length := by
        have h := r1.1
        simp only [seMk, seMkX] at h
        rw [verMk_len] at h
        exact h.symm
      simp only [seMk, seMkX] at c0 c1 c2 r1
      rw [← e1] at r1 hkb KS
      generalize kG seCnt k0 (hs.take j) = K at *
      generalize hs[j] = x at *
      obtain ⟨X, ⟨sa, sn, sc⟩⟩ := x
      simp only at c2 r1 hkb KS e1
      subst hab
      have RV := hide r1
      have hsz := hb.size
      have HV := hide (heldVersionS_any sa sn sc (K + 2) wr (by omega) (by omega) r1)
      rw [show (((K + 2 : Nat) : Int)) = (K : Int) + 1 + 1 by omega] at HV
      clear em I r1 hml hjl e1
      by_cases h3 : (K : Int) % 3 = 0
      · rw [decide_eq_true h3] at c0
        go_wp2_with fail
        refine (unhide HV).mono ?_
        rintro e w4 ⟨rfl, hb4⟩
        have bE : Below w.heap.size w w4 := hb.trans (hb4.mono hsz)
        have hn2 : ¬ (((K + 2 + 4 * sn : Nat) : Int) < 0) := by omega
        clear hb4 HV c0 c1 c2
        go_wp2_with fail
        go_roundw
        case rel => exact ⟨j + 1, by omega, by go_num, by rw [unhide KS]; congr 2; omega, bE⟩
        case measure => simp [intOf]; omega
      · rw [decide_eq_false h3] at c0
        go_wp2_with fail
        refine (unhide HV).mono ?_
        rintro e w4 ⟨rfl, hb4⟩
        have bE : Below w.heap.size w w4 := hb.trans (hb4.mono hsz)
        have hn2 : ¬ (((K + 2 + 4 * sn : Nat) : Int) < 0) := by omega
        clear hb4 HV c0 c1 c2
        go_wp2_with fail
        go_roundw
        case rel => exact ⟨j + 1, by omega, by go_num, by rw [unhide KS]; congr 2; omega, bE⟩
        case measure => simp [intOf]; omega
    · obtain rfl : j = n := by omega
      have hE : hs.take j = hs := List.take_of_length_le (by rw [unhide L]; exact Nat.le_refl _)
      rw [hE]
      go_wp2_with fail
      go_ret
      exact ⟨rfl, hb⟩
end Go.Proofs.YtdnjgbckkmbmfaaGreat

namespace Go.Proofs.YtdnjgbckkmbmfaaGreat
open Go.RowKit Go.Maps

theorem hm_inj {a b : ByteArray} (h : a.data.toList = b.data.toList) : a = b := by
  cases a
  cases b
  simp at h
  simp [h]
def hmElem (v : Value) : Option (DataW Value × List MemPlace) := some (.held v, [])
def HMap (w : World) (m N : Nat) (f : ByteArray → Value) : Prop :=
  ∃ D : DataW Value, w.ownsMap Tryz.prog 9 hmElem m N D ∧ (∀ k : ByteArray, k.size ≤ maxLen → D.atKey (.string k.data.toList) (.held (.slice none 0 0)) = .held (f k)) ∧ ∀ k : ByteArray, k.size ≤ maxLen → (has D (.string k.data.toList) = true ↔ f k ≠ .slice none 0 0)
theorem HMap.lt {w : World} {m N : Nat} {f : ByteArray → Value} (h : HMap w m N f) : m < w.heap.size := by obtain ⟨D, h, _⟩ := h; exact h.lt
theorem HMap.block {w w' : World} {m N : Nat} {f : ByteArray → Value} (h : HMap w m N f) (hb : w'.heap[m]? = w.heap[m]?) : HMap w' m N f := by
  obtain ⟨D, ⟨es, clock, h1, h2⟩, h3⟩ := h
  exact ⟨D, ⟨es, clock, hb.trans h1, h2⟩, h3⟩
theorem hmap_made (w : World) : HMap (w.alloc (.map #[] 0)) w.heap.size 0 (fun _ => .slice none 0 0) :=
  ⟨.map [], World.ownsMap_made w _ _ _, fun _ _ => rfl, fun k _ => by simp [has_eq]⟩
theorem hm_zero (w : World) : (zeroValue 25).run Tryz.prog w = .ok (.slice none 0 0) w := by kernel_rfl
theorem HMap.lookup {w : World} {m N : Nat} {f : ByteArray → Value} (h : HMap w m N f) {k : ByteArray} (hk : k.size ≤ maxLen) : (Instr.lookup 94 (.map (some m)) (.string k) false).run Tryz.prog w = .ok (f k) w := by
  obtain ⟨D, h1, h2, _⟩ := h
  obtain ⟨v, ps, hrun, hv⟩ := h1.lookup (string_keyed Tryz.underlying9) Tryz.underlying94 (hm_zero w) (zd := .held (.slice none 0 0)) (zp := []) rfl (WideMaps.keyOf_string_mk (P := Tryz.prog) Tryz.underlying9 hk)
  rw [h2 k hk] at hv
  simp [hmElem] at hv
  rw [hrun, hv.1]
theorem HMap.update {w : World} {m N : Nat} {f : ByteArray → Value} (h : HMap w m N f) {k : ByteArray} (hk : k.size ≤ maxLen) (hN : N < maxLen) (v : Value) (hv : v ≠ .slice none 0 0) :
    ∃ w', (Instr.mapUpdate 94 (.map (some m)) (.string k) v).run Tryz.prog w = .ok () w' ∧ HMap w' m (N + 1) (fun x => if x = k then v else f x) ∧ w.grownBy w' (some m) := by
  obtain ⟨D, h1, h2, h3⟩ := h
  obtain ⟨w', hrun, ho, hg⟩ := h1.update (string_keyed Tryz.underlying9) Tryz.underlying94 hN (WideMaps.keyOf_string_mk (P := Tryz.prog) Tryz.underlying9 hk) (val := v) (d := .held v) (ps := []) rfl
  refine ⟨w', hrun, ⟨_, ho, fun j hj => ?_, fun j hj => ?_⟩, hg⟩
  · show _ = DataW.held (if j = k then v else f j)
    by_cases e : j = k
    · subst e
      rw [if_pos rfl, atKey_put_same h1.isMap (show WideAt.IsKeyLit (.string j.data.toList) from trivial)]
    · rw [if_neg e, atKey_put_other (by intro h; injection h with h; exact e (hm_inj h)), h2 j hj]
  · show _ ↔ (if j = k then v else f j) ≠ _
    by_cases e : j = k
    · subst e
      rw [if_pos rfl, has_put_same h1.isMap (show WideAt.IsKeyLit (.string j.data.toList) from trivial)]
      exact ⟨fun _ => hv, fun _ => rfl⟩
    · rw [if_neg e, has_put_other (by intro h; injection h with h; exact e (hm_inj h)), h3 j hj]
structure HisAt (w : World) (m N B : Nat) (f : ByteArray → Value) (ds : List VerD) : Prop where
  map : HMap w m N f
  own : ∀ k, VOwns w B (f k) (grp ds k)
  far : ∀ k j, k ≠ j → ∀ g, (f k).ownBlock = some g → (f j).ownBlock ≠ some g
  mb : m < B
  no : ∀ k, grp ds k = [] → f k = .slice none 0 0
theorem HisAt.below {w w' : World} {m N B : Nat} {f : ByteArray → Value} {ds : List VerD} (h : HisAt w m N B f ds) (hb : Below w.heap.size w w') : HisAt w' m N B f ds :=
  ⟨h.map.block (hb.block m h.map.lt), fun k => vowns_below (h.own k) hb, h.far, h.mb, h.no⟩
theorem hm_app {w : World} {B : Nat} {v : Value} {ds : List VerD} {d : VerD} (ho : VOwns w B v ds) (hz : ds.length ≤ 1000000) (hB : B ≤ w.heap.size) :
    ∃ v' w', (Builtin.append_ #[25, 25] 25 #[v, .slice (some ⟨w.heap.size, 0, none⟩) 1 1]).run Tryz.prog (w.alloc (.cells #[.string d.k, .int .i64 d.t, .string d.v, .bool d.g] 43)) = .ok v' w' ∧ VOwns w' B v' (ds ++ [d]) ∧ (w.alloc (.cells #[.string d.k, .int .i64 d.t, .string d.v, .bool d.g] 43)).grownBy w' v.ownBlock ∧ (v'.ownBlock = v.ownBlock ∨ v'.ownBlock = some (w.heap.size + 1)) := by
  obtain ⟨i0, hi0, hz0, hz1, hz2⟩ := info_parts Tryz.infoVersion
  have hcells : ∀ j u, (vcs [d])[j]? = some u → (w.alloc (.cells #[.string d.k, .int .i64 d.t, .string d.v, .bool d.g] 43)).cell? ((⟨w.heap.size, 0, none⟩ : Addr).add j) = some u := fun j u hu => by
    have hj : j < 4 := by simpa [vcs] using (List.getElem?_eq_some_iff.1 hu).1
    have e2 : (⟨w.heap.size, 0, none⟩ : Addr).add j = ⟨w.heap.size, j, none⟩ := by unfold Addr.add; split <;> simp_all
    rw [e2]
    refine rb_cell_new rfl ?_
    match j, hj with
    | 0, _ => simpa [vcs] using hu
    | 1, _ => simpa [vcs] using hu
    | 2, _ => simpa [vcs] using hu
    | 3, _ => simpa [vcs] using hu
  have hoa := World.ownsRow.alloc ho (.cells #[.string d.k, .int .i64 d.t, .string d.v, .bool d.g] 43)
  obtain ⟨v', w', hr, ho', hg, _⟩ := run_append_own (P := Tryz.prog) (w.alloc (.cells #[.string d.k, .int .i64 d.t, .string d.v, .bool d.g] 43)) B 25 25 43 i0 _ 4 48 Tryz.underlying25 hi0 hz0 hz1 hz2 rfl (by decide) v _ _ hoa ⟨w.heap.size, 0, none⟩ 1 1 (vcs [d]) (by simp [vcs]) hcells (vcs_one _) (by unfold maxLen; omega) (by omega) (by simp; omega)
  refine ⟨v', w', hr, by unfold VOwns; rw [List.length_append, vcs_append]; exact ho', hg, ?_⟩
  have hsz : (w.alloc (.cells #[.string d.k, .int .i64 d.t, .string d.v, .bool d.g] 43)).heap.size = w.heap.size + 1 := by simp
  rcases hoa.2 with ⟨rfl, h0⟩ | ⟨g', cap', cur, rfl, hbg, hgg, hnc, hcm, hcs, htake⟩
  · have h := run_append_nil (P := Tryz.prog) (w.alloc (.cells #[.string d.k, .int .i64 d.t, .string d.v, .bool d.g] 43)) 25 25 43 i0 _ Tryz.underlying25 hi0 hz0 ⟨w.heap.size, 0, none⟩ 1 1 (vcs [d]) (by rw [hz1]; simp [vcs]) hcells (by omega) (by omega) (by rw [hz2]; omega)
    rw [hr] at h
    injection h with h _
    subst h
    exact .inr (by simp [Value.ownBlock, hsz])
  · by_cases hroom : ds.length + 1 ≤ cap'
    · have h := run_append_room (P := Tryz.prog) (w.alloc (.cells #[.string d.k, .int .i64 d.t, .string d.v, .bool d.g] 43)) 25 25 43 i0 Tryz.underlying25 hi0 g' ds.length cap' cur hgg ⟨w.heap.size, 0, none⟩ 1 1 (vcs [d]) (by rw [hz1]; simp [vcs]) hcells (vcs_one _) hroom (by rw [hz1, hcs]; simp [vcs]; omega)
      rw [hr] at h
      injection h with h _
      subst h
      exact .inl rfl
    · have h := run_append_grow (P := Tryz.prog) (w.alloc (.cells #[.string d.k, .int .i64 d.t, .string d.v, .bool d.g] 43)) 25 25 43 i0 _ Tryz.underlying25 hi0 hz0 ⟨g', 0, none⟩ ds.length cap' (vcs ds) (by rw [hz1, vcs_len]) (fun j u hu => by
          have hj : j < ds.length * 4 := by rw [← vcs_len]; exact (List.getElem?_eq_some_iff.1 hu).1
          have e2 : (⟨g', 0, none⟩ : Addr).add j = ⟨g', j, none⟩ := by unfold Addr.add; split <;> simp_all
          rw [e2, hoa.cellAt j hj, hu]) ⟨w.heap.size, 0, none⟩ 1 1 (vcs [d]) (by rw [hz1]; simp [vcs]) hcells (by omega) (by omega) (by rw [hz2]; exact growslice_fits (by omega) (by omega))
      rw [hr] at h
      injection h with h _
      subst h
      exact .inr (by simp [Value.ownBlock, hsz])
end Go.Proofs.YtdnjgbckkmbmfaaGreat

namespace Go.Proofs.YtdnjgbckkmbmfaaGreat
open Go.RowKit Go.Maps

theorem hm_stepUpd {P : Program} {ops : Array Oper} {o : Oper} {a : Act} {w : World} {K : Act → World → Prop} {Q : Exit → Act → World → Prop} {E : Prop}
    (hg : o.guard = none) (m x v : Operand) (t : TypeId) (hop : o.op = Op.mapUpdate t m x v) (vm vx vv : Value) (w' : World) (hm : a.eval m = vm) (hx : a.eval x = vx) (hv : a.eval v = vv)
    (hrun : (Instr.mapUpdate t vm vx vv).run P w = .ok () w') (hK : K (a.put o.dst undef) w') :
    if Region.wanted o (yielded ops a.tmps) = true then Oper.wp P o a w K Q else E := by
  have hw : Region.wanted o (yielded ops a.tmps) = true := by simp [Region.wanted, hg]
  rw [if_pos hw]
  unfold Oper.wp
  simp [execOp, hop, hm, hx, hv, hrun, Result.andThen]
  exact hK
theorem hm_stepLook {P : Program} {ops : Array Oper} {o : Oper} {a : Act} {w : World} {K : Act → World → Prop} {Q : Exit → Act → World → Prop} {E : Prop}
    (hg : o.guard = none) (m x : Operand) (t : TypeId) (hop : o.op = Op.lookup t m x false) (vm vx v : Value) (hm : a.eval m = vm) (hx : a.eval x = vx)
    (hrun : (Instr.lookup t vm vx false).run P w = .ok v w) (hK : K (a.put o.dst v) w) :
    if Region.wanted o (yielded ops a.tmps) = true then Oper.wp P o a w K Q else E := by
  have hw : Region.wanted o (yielded ops a.tmps) = true := by simp [Region.wanted, hg]
  rw [if_pos hw]
  unfold Oper.wp
  simp [execOp, hop, hm, hx, hrun, Result.andThen]
  exact hK
theorem cb_stepApp2 {P : Program} {ops : Array Oper} {o : Oper} {a : Act} {w : World} {K : Act → World → Prop} {Q : Exit → Act → World → Prop} {E : Prop}
    (hg : o.guard = none) (s x : Operand) (t : TypeId) (hop : o.op = Op.call { callee := Callee.builtin Builtin.append, args := #[s, x], argTypes := #[t, t] })
    (vs vx v' : Value) (w' : World) (hs : a.eval s = vs) (hx : a.eval x = vx) (hrun : (Builtin.append_ #[t, t] o.type #[vs, vx]).run P w = .ok v' w') (hK : K (a.put o.dst v') w') :
    if Region.wanted o (yielded ops a.tmps) = true then Oper.wp P o a w K Q else E := by
  have hw : Region.wanted o (yielded ops a.tmps) = true := by simp [Region.wanted, hg]
  rw [if_pos hw]
  unfold Oper.wp
  simp [execOp, hop, resolve, invoke, builtin, hs, hx, hrun, Result.andThen]
  exact hK
theorem HisAt.step {w w1 : World} {m N B : Nat} {f : ByteArray → Value} {ds : List VerD} (h : HisAt w m N B f ds) (d : VerD) (hk : d.k.size ≤ maxLen) (hN : N < maxLen) {v' : Value} (o1 : VOwns w1 B v' (grp ds d.k ++ [d]))
    (gr1 : (w.alloc (.cells #[.string d.k, .int .i64 d.t, .string d.v, .bool d.g] 43)).grownBy w1 (f d.k).ownBlock) (loc : v'.ownBlock = (f d.k).ownBlock ∨ v'.ownBlock = some (w.heap.size + 1)) :
    ∃ w2, (Instr.mapUpdate 94 (.map (some m)) (.string d.k) v').run Tryz.prog w1 = .ok () w2 ∧ HisAt w2 m (N + 1) B (fun x => if x = d.k then v' else f x) (ds ++ [d]) ∧ Below m w w1 ∧ Below m w w2 ∧
      ∀ i, i < w.heap.size → i ≠ m → (f d.k).ownBlock ≠ some i → w1.heap[i]? = w.heap[i]? ∧ w2.heap[i]? = w.heap[i]? := by
  have hmw := h.map.lt
  have hmb := h.mb
  have hB : ∀ k g, (f k).ownBlock = some g → B ≤ g ∧ g < w.heap.size := fun k g e => (h.own k).lt g e
  have bA : Below w.heap.size w (w.alloc (.cells #[.string d.k, .int .i64 d.t, .string d.v, .bool d.g] 43)) := (Below.refl _ _).alloc (Nat.le_refl _) _
  have hA : ∀ i, i < w.heap.size → (f d.k).ownBlock ≠ some i → w1.heap[i]? = w.heap[i]? := fun i hi hne => (gr1.block i (Nat.lt_of_lt_of_le hi bA.size) (fun e => hne e.symm)).trans (bA.block i hi)
  have hM1 : HMap w1 m N f := h.map.block (hA m hmw (fun e => by have := (hB _ _ e).1; omega))
  obtain ⟨w2, hr2, hm2, gr2⟩ := hM1.update hk hN v' (fun e => by subst e; have h1 := o1.2; simp at h1)
  have hs1 : w.heap.size ≤ w1.heap.size := Nat.le_trans bA.size gr1.size
  have hA2 : ∀ i, i < w.heap.size → i ≠ m → (f d.k).ownBlock ≠ some i → w2.heap[i]? = w.heap[i]? := fun i hi hm' hne => (gr2.block i (Nat.lt_of_lt_of_le hi hs1) (fun e => hm' (by injection e))).trans (hA i hi hne)
  refine ⟨w2, hr2, ⟨hm2, fun k => ?_, fun k j hkj g hg hj => ?_, hmb, fun k hk0 => ?_⟩, ?_, ?_, fun i hi hm' hne => ⟨hA i hi hne, hA2 i hi hm' hne⟩⟩
  · show VOwns w2 B (if k = d.k then v' else f k) (grp (ds ++ [d]) k)
    by_cases e : k = d.k
    · subst e
      rw [if_pos rfl, grp_snoc_same]
      exact World.ownsRow.kept o1 gr2 (by
        cases hu : v'.ownBlock with
        | none => exact .inl rfl
        | some g => exact .inr fun e => by have h1 := (o1.lt g hu).1; injection e with e; omega)
    · rw [if_neg e, grp_snoc_other _ _ e]
      refine World.ownsRow.kept (World.ownsRow.kept (vowns_below (h.own k) bA) gr1 ?_) gr2 ?_
      · cases hu : (f k).ownBlock with
        | none => exact .inl rfl
        | some g => exact .inr fun e' => h.far k d.k e g hu e'.symm
      · cases hu : (f k).ownBlock with
        | none => exact .inl rfl
        | some g => exact .inr fun e' => by have h1 := (hB k g hu).1; injection e' with e'; omega
  · revert hg hj
    show (if k = d.k then v' else f k).ownBlock = some g → (if j = d.k then v' else f j).ownBlock = some g → False
    intro hg hj
    by_cases e : k = d.k
    · have e2 : ¬ j = d.k := fun e2 => hkj (e.trans e2.symm)
      rw [if_pos e] at hg
      rw [if_neg e2] at hj
      rcases loc with l1 | l1
      · exact h.far j d.k e2 g hj (l1.symm.trans hg)
      · have h1 := (hB j g hj).2
        rw [l1] at hg
        injection hg with hg
        omega
    · rw [if_neg e] at hg
      by_cases e2 : j = d.k
      · rw [if_pos e2] at hj
        rcases loc with l1 | l1
        · exact h.far k d.k e g hg (l1.symm.trans hj)
        · have h1 := (hB k g hg).2
          rw [l1] at hj
          injection hj with hj
          omega
      · rw [if_neg e2] at hj
        exact h.far k j hkj g hg hj
  · show (if k = d.k then v' else f k) = _
    by_cases e : k = d.k
    · subst e
      rw [grp_snoc_same] at hk0
      simp at hk0
    · rw [if_neg e]
      rw [grp_snoc_other _ _ e] at hk0
      exact h.no k hk0
  · exact ⟨gr1.os.trans bA.os, gr1.tape.trans bA.tape, gr1.output.trans bA.output, hs1, fun i hi => hA i (by omega) (fun e => by have := (hB _ _ e).1; omega)⟩
  · exact ⟨gr2.os.trans (gr1.os.trans bA.os), gr2.tape.trans (gr1.tape.trans bA.tape), gr2.output.trans (gr1.output.trans bA.output), Nat.le_trans hs1 gr2.size, fun i hi => hA2 i (by omega) (by omega) (fun e => by have := (hB _ _ e).1; omega)⟩
set_option maxRecDepth 100000 in
set_option maxHeartbeats 4000000 in
theorem historyOf_any (a : Option Addr) (n c : Nat) (ds : List VerD) (w : World) (hn : n ≤ 4096) (hr : VRow w a n ds) (hs : ∀ i (hi : i < ds.length), ds[i].k.size ≤ maxLen) :
    Calls Tryz.prog 46 #[.slice a n c] w fun e w' => ∃ f, e = .returned (.map (some w.heap.size)) ∧ HisAt w' w.heap.size n (w.heap.size + 1) f ds ∧ Below w.heap.size w w' := by
  have hmm := @run_makeMap Tryz.prog
  have L := hide hr.1
  have R := hide hr
  have HS := hide hs
  have H0 := hide (show HisAt (w.alloc (.map #[] 0)) w.heap.size 0 (w.heap.size + 1) (fun _ => .slice none 0 0) [] from
    ⟨hmap_made w, fun k => World.ownsRow_nil _ _ _ _, fun k j h g e => by simp [Value.ownBlock] at e, by omega, fun _ _ => rfl⟩)
  have B0 := hide (show Below w.heap.size w (w.alloc (.map #[] 0)) from (Below.refl _ _).alloc (Nat.le_refl _) _)
  clear hr hs
  go_enter Tryz.func46, Tryz.ntmps46
  go_wp2_with fail
  go_loopw [9] (fun i wr => ∃ (j : Nat) (f : ByteArray → Value), i = .int .i64 (j : Int) ∧ j ≤ n ∧ Hid (HisAt wr w.heap.size j (w.heap.size + 1) f (ds.take j)) ∧ Hid (Below w.heap.size w wr)) (fun i _ => n - (intOf i).toNat)
  case atStart => exact ⟨0, _, rfl, Nat.zero_le _, unhide H0, unhide B0⟩
  case round =>
    clear H0 B0
    obtain ⟨j, f, rfl, hj, hH, hB⟩ := hrel
    by_cases hlt : j < n
    · have hj2 : j < ds.length := by rw [unhide L]; exact hlt
      obtain ⟨b, off, rfl, d0, d1, d2, d3⟩ := ((unhide R).below (unhide hB)).2 j hj2
      have hks := unhide HS j hj2
      have TS := hide (rb_take_snoc ds j hj2)
      have hln : (ds.take j).length ≤ 4096 := by rw [List.length_take]; omega
      have hsr := (unhide hB).size
      have hmw : w.heap.size < wr.heap.size := (unhide hH).map.lt
      generalize ds[j] = pd at *
      obtain ⟨pk, pt, pv, pg⟩ := pd
      simp only at d0 d1 d2 d3 hks
      have B1 : Below wr.heap.size wr (wr.alloc (.cells #[.string pk, .int .i64 pt, .string pv, .bool pg] 43)) := (Below.refl _ _).alloc (Nat.le_refl _) _
      have BX := hide ((unhide hB).trans (B1.mono hsr))
      have HX := hide ((unhide hH).below B1)
      have KX := hide (heap_alloc_new wr (.cells #[.string pk, .int .i64 pt, .string pv, .bool pg] 43))
      have hsx : wr.heap.size + 1 = (wr.alloc (.cells #[.string pk, .int .i64 pt, .string pv, .bool pg] 43)).heap.size := by simp
      have FB : ∀ g, (f pk).ownBlock = some g → g < wr.heap.size := fun g e => (((unhide hH).own pk).lt g e).2
      clear hB hH B1
      go_upto_region 5 with fail
      clear d0 d1 d2 d3
      generalize wr.alloc (.cells #[.string pk, .int .i64 pt, .string pv, .bool pg] 43) = W at *
      generalize wr.heap.size = bx at *
      have SK := hide (show ∀ u, Below w.heap.size w u → u.heap[bx]? = some (.cells #[.string pk, .int .i64 pt, .string pv, .bool pg] 43 (0, 0)) → (fun u => Below w.heap.size w u ∧ u.cell? ⟨bx, 0, none⟩ = some (.string pk) ∧ u.cell? ⟨bx, 1, none⟩ = some (.int .i64 pt) ∧ u.cell? ⟨bx, 2, none⟩ = some (.string pv) ∧ u.cell? ⟨bx, 3, none⟩ = some (.bool pg)) u from fun u hb hk => ⟨hb, (heap_at hk 0).1, (heap_at hk 1).1, (heap_at hk 2).1, (heap_at hk 3).1⟩)
      have HD : HisAt W.drew w.heap.size j (w.heap.size + 1) f (ds.take j) := (unhide HX).below (Below.refl _ _).drew
      have bA : Below W.drew.heap.size W.drew (W.drew.alloc (.cells #[.string pk, .int .i64 pt, .string pv, .bool pg] 43)) := (Below.refl _ _).alloc (Nat.le_refl _) _
      have hWs : w.heap.size ≤ W.drew.heap.size := (unhide BX).size
      have BA := hide ((unhide BX).drew.trans (bA.mono hWs))
      have KA := hide ((bA.block bx (show bx < W.heap.size by omega)).trans (unhide KX))
      have LK := hide (show ∀ u, (u = W.drew ∨ u = W.drew.alloc (.cells #[.string pk, .int .i64 pt, .string pv, .bool pg] 43)) → (Instr.lookup 94 (.map (some w.heap.size)) (.string pk) false).run Tryz.prog u = .ok (f pk) u from fun u hu => by
        rcases hu with rfl | rfl
        · exact HD.map.lookup hks
        · exact (HD.below bA).map.lookup hks)
      have hgl := grp_len (ds.take j) pk
      obtain ⟨v1, w1, hr1, o1, gr1, loc1⟩ := hm_app (d := ⟨pk, pt, pv, pg⟩) (HD.own pk) (by omega) (show w.heap.size + 1 ≤ W.heap.size by omega)
      simp only at hr1 gr1
      obtain ⟨w2, hr2, HN', bb1, bb2, KN⟩ := HD.step ⟨pk, pt, pv, pg⟩ hks (by unfold maxLen; omega) o1 gr1 loc1
      have B1 := hide ((unhide BX).drew.trans bb1)
      have B2 := hide ((unhide BX).drew.trans bb2)
      have kn := KN bx (show bx < W.heap.size by omega) (by omega) (fun e => by have := FB bx e; omega)
      have K1 := hide (kn.1.trans (unhide KX))
      have K2 := hide (kn.2.trans (unhide KX))
      have HN := hide (show HisAt w2 w.heap.size (j + 1) (w.heap.size + 1) (fun x => if x = pk then v1 else f x) (ds.take (j + 1)) by rw [unhide TS]; exact HN')
      simp only at hr2
      clear HN' bb1 bb2 KN kn o1 gr1 loc1 HD bA hgl
      refine wp_region_held_drew (S := (fun u => Below w.heap.size w u ∧ u.cell? ⟨bx, 0, none⟩ = some (.string pk) ∧ u.cell? ⟨bx, 1, none⟩ = some (.int .i64 pt) ∧ u.cell? ⟨bx, 2, none⟩ = some (.string pv) ∧ u.cell? ⟨bx, 3, none⟩ = some (.bool pg))) (by kernel_rfl) (unhide SK _ (unhide BX).drew (unhide KX)) (fun hHeld => ?_)
      refine tk 0 13 (v := ?v1) rfl rfl ?h1 hHeld ?r1
      case h1 => (intro w hSw; (try dsimp only at hSw); go_simp; try (with_reducible rfl))
      simp only [Act.put, List.setIfInBounds_toArray, List.set_cons_zero, List.set_cons_succ]
      refine tk 1 14 (v := ?v2) rfl rfl ?h2 hHeld ?r2
      case h2 => (intro w hSw; (try dsimp only at hSw); go_simp; try (with_reducible rfl))
      simp only [Act.put, List.setIfInBounds_toArray, List.set_cons_zero, List.set_cons_succ]
      refine tk 2 15 (v := ?v3) rfl rfl ?h3 hHeld ?r3
      case h3 => (intro w hSw; (try dsimp only at hSw); go_simp; try (with_reducible rfl))
      simp only [Act.put, List.setIfInBounds_toArray, List.set_cons_zero, List.set_cons_succ]
      refine tk 3 16 (v := ?v4) rfl rfl ?h4 hHeld ?r4
      case h4 => (intro w hSw; (try dsimp only at hSw); go_simp; try (with_reducible rfl))
      simp only [Act.put, List.setIfInBounds_toArray, List.set_cons_zero, List.set_cons_succ]
      refine tk 4 17 (v := ?v5) rfl rfl ?h5 hHeld ?r5
      case h5 => (intro w hSw; (try dsimp only at hSw); go_simp; try (with_reducible rfl))
      simp only [Act.put, List.setIfInBounds_toArray, List.set_cons_zero, List.set_cons_succ]
      refine tk 5 18 (v := ?v6) rfl rfl ?h6 hHeld ?r6
      case h6 => (intro w hSw; (try dsimp only at hSw); go_simp; try (with_reducible rfl))
      simp only [Act.put, List.setIfInBounds_toArray, List.set_cons_zero, List.set_cons_succ]
      refine tk 7 20 (v := ?v7) rfl rfl ?h7 hHeld ?r7
      case h7 => (intro w hSw; (try dsimp only at hSw); go_simp; try (with_reducible rfl))
      simp only [Act.put, List.setIfInBounds_toArray, List.set_cons_zero, List.set_cons_succ]
      refine wpAnyH_ready (rs := [6, 8]) (by kernel_rfl) (by simp) ?_
      refine AllReadyH.cons rfl (fun K hK => ?_) (AllReadyH.cons rfl (fun K hK => ?_) AllReadyH.nil)
      · refine hm_stepLook rfl (.tmp 16) (.tmp 18) 94 rfl _ _ (f pk) (by first | rfl | (simp [Act.eval]; done) | (simp [Act.eval, Act.put]; done)) (by first | rfl | (simp [Act.eval]; done) | (simp [Act.eval, Act.put]; done)) (unhide LK _ (Or.inl rfl)) ?_
        refine hK.out _ _ (unhide SK _ (unhide BX).drew (unhide KX)) (fun hHeld => ?_)
        clear hK K
        simp only [Act.put, List.setIfInBounds_toArray]
        refine wpAnyH_ready (rs := [8]) (by kernel_rfl) (by simp) ?_
        refine AllReadyH.cons rfl (fun K hK => ?_) AllReadyH.nil
        go_simp
        refine hK.out _ _ (unhide SK _ (unhide BA) (unhide KA)) (fun hHeld => ?_)
        clear hK K
        refine wpAnyH_ready (rs := [9]) (by kernel_rfl) (by simp) ?_
        refine AllReadyH.cons rfl (fun K hK => ?_) AllReadyH.nil
        refine cb_stepApp2 rfl (.tmp 19) (.tmp 21) 25 rfl _ _ v1 w1 (by first | rfl | (simp [Act.eval]; done) | (simp [Act.eval, Act.put]; done)) (by first | rfl | (simp [Act.eval]; done) | (simp [Act.eval, Act.put]; done)) hr1 ?_
        refine hK.out _ _ (unhide SK _ (unhide B1) (unhide K1)) (fun hHeld => ?_)
        clear hK K
        simp only [Act.put, List.setIfInBounds_toArray]
        refine wpAnyH_ready (rs := [10]) (by kernel_rfl) (by simp) ?_
        refine AllReadyH.cons rfl (fun K hK => ?_) AllReadyH.nil
        refine hm_stepUpd rfl (.tmp 13) (.tmp 15) (.tmp 22) 94 rfl _ _ _ w2 (by first | rfl | (simp [Act.eval]; done) | (simp [Act.eval, Act.put]; done)) (by first | rfl | (simp [Act.eval]; done) | (simp [Act.eval, Act.put]; done)) (by first | rfl | (simp [Act.eval]; done) | (simp [Act.eval, Act.put]; done)) hr2 ?_
        refine hK.out _ _ (unhide SK _ (unhide B2) (unhide K2)) (fun hHeld => ?_)
        clear hK K
        refine wpAnyH_done (by kernel_rfl) ?_ _
        go_wp2_with fail
        go_roundw
        case rel => exact ⟨j + 1, _, by go_num, by omega, unhide HN, unhide B2⟩
        case measure => simp [intOf]; omega
      · go_simp
        refine hK.out _ _ (unhide SK _ (unhide BA) (unhide KA)) (fun hHeld => ?_)
        clear hK K
        refine wpAnyH_ready (rs := [6]) (by kernel_rfl) (by simp) ?_
        refine AllReadyH.cons rfl (fun K hK => ?_) AllReadyH.nil
        refine hm_stepLook rfl (.tmp 16) (.tmp 18) 94 rfl _ _ (f pk) (by first | rfl | (simp [Act.eval]; done) | (simp [Act.eval, Act.put]; done)) (by first | rfl | (simp [Act.eval]; done) | (simp [Act.eval, Act.put]; done)) (unhide LK _ (Or.inr rfl)) ?_
        refine hK.out _ _ (unhide SK _ (unhide BA) (unhide KA)) (fun hHeld => ?_)
        clear hK K
        simp only [Act.put]
        refine wpAnyH_ready (rs := [9]) (by kernel_rfl) (by simp) ?_
        refine AllReadyH.cons rfl (fun K hK => ?_) AllReadyH.nil
        refine cb_stepApp2 rfl (.tmp 19) (.tmp 21) 25 rfl _ _ v1 w1 (by first | rfl | (simp [Act.eval]; done) | (simp [Act.eval, Act.put]; done)) (by first | rfl | (simp [Act.eval]; done) | (simp [Act.eval, Act.put]; done)) hr1 ?_
        refine hK.out _ _ (unhide SK _ (unhide B1) (unhide K1)) (fun hHeld => ?_)
        clear hK K
        simp only [Act.put, List.setIfInBounds_toArray]
        refine wpAnyH_ready (rs := [10]) (by kernel_rfl) (by simp) ?_
        refine AllReadyH.cons rfl (fun K hK => ?_) AllReadyH.nil
        refine hm_stepUpd rfl (.tmp 13) (.tmp 15) (.tmp 22) 94 rfl _ _ _ w2 (by first | rfl | (simp [Act.eval]; done) | (simp [Act.eval, Act.put]; done)) (by first | rfl | (simp [Act.eval]; done) | (simp [Act.eval, Act.put]; done)) (by first | rfl | (simp [Act.eval]; done) | (simp [Act.eval, Act.put]; done)) hr2 ?_
        refine hK.out _ _ (unhide SK _ (unhide B2) (unhide K2)) (fun hHeld => ?_)
        clear hK K
        refine wpAnyH_done (by kernel_rfl) ?_ _
        go_wp2_with fail
        go_roundw
        case rel => exact ⟨j + 1, _, by go_num, by omega, unhide HN, unhide B2⟩
        case measure => simp [intOf]; omega
    · obtain rfl : j = n := by omega
      have Z := hide (show HisAt wr w.heap.size j (w.heap.size + 1) f ds by
        have := unhide hH
        rwa [List.take_of_length_le (by rw [unhide L]; exact Nat.le_refl _)] at this)
      go_wp2_with fail
      go_ret
      exact ⟨f, rfl, unhide Z, unhide hB⟩
end Go.Proofs.YtdnjgbckkmbmfaaGreat

namespace Go.Proofs.YtdnjgbckkmbmfaaGreat
open Go.RowKit

def NoV (w : World) (i : Nat) : Prop := ∀ cur, w.heap[i]? ≠ some (.cells cur 43 (0, 0))
theorem noV_kind {w : World} {i : Nat} {cs : Array Value} {t : TypeId} (h : w.heap[i]? = some (.cells cs t (0, 0))) (ht : 43 ≠ t) : NoV w i := fun cur e => by
  rw [h] at e
  injection e with e
  injection e with _ e _
  exact ht e.symm
theorem HMap.wr {w w' : World} {m N : Nat} {f : ByteArray → Value} (h : HMap w m N f) {P : Nat → Prop} (hw : WrB P w w') (hp : ¬ P m) : HMap w' m N f := h.block (hw.block m h.lt hp)
theorem HisAt.wr {w w' : World} {m N B : Nat} {f : ByteArray → Value} {ds : List VerD} (h : HisAt w m N B f ds) {P : Nat → Prop} (hw : WrB P w w') (hm : ¬ P m) (hp : ∀ i, P i → NoV w i) : HisAt w' m N B f ds :=
  ⟨h.map.wr hw hm, fun k => rr_owns_wr (h.own k) hw (fun i hi hP => by obtain ⟨cur, hc⟩ := own_kind (h.own k) hi; exact hp i hP cur hc), h.far, h.mb, h.no⟩
theorem HMap.ne {w : World} {m N b : Nat} {f : ByteArray → Value} (h : HMap w m N f) {cs : Array Value} {t : TypeId} (hb : w.heap[b]? = some (.cells cs t (0, 0))) : m ≠ b := fun e => by
  obtain ⟨D, ⟨es, clock, h1, _⟩, _⟩ := h
  rw [e, hb] at h1
  cases h1
theorem se_far {w : World} {B b : Nat} {v : Value} {hs : List SeH} (h : SeOwn w B v hs) {cs : Array Value} {t : TypeId} (hb : w.heap[b]? = some (.cells cs t (0, 0))) (h1 : 55 ≠ t) (h2 : 43 ≠ t) : ¬ NBl v (hs.map seEl) b := by
  rintro (hi | ⟨k, a, x, hx, hi⟩)
  · exact own_box h.row hb h1 hi
  · have ho := h.dat k a x hx
    obtain ⟨e, he, hxe⟩ := sbAt_mem hx
    obtain ⟨y, _, rfl⟩ := List.mem_map.1 he
    have : x = _ := List.mem_singleton.1 hxe
    subst this
    exact own_box ho hb h2 hi
theorem grown_wr {w w' : World} {r : Option Nat} (h : w.grownBy w' r) : WrB (fun i => r = some i) w w' := ⟨h.os, h.tape, h.output, h.size, fun i hi hp => h.block i hi (fun e => hp e.symm)⟩
theorem nbl_se {w : World} {B n i : Nat} {v : Value} {hs : List SeH} (h : NOwn w B 55 3 v n (hs.map seEl)) (hi : NBl v (hs.map seEl) i) : ∃ cur T, w.heap[i]? = some (.cells cur T (0, 0)) ∧ (T = 55 ∨ T = 43) := by
  rcases hi with hi | ⟨k, a, x, hx, hi⟩
  · obtain ⟨cur, hc⟩ := own_kind h.row hi
    exact ⟨cur, _, hc, .inl rfl⟩
  · obtain ⟨cur, hc⟩ := own_kind (h.dat k a x hx) hi
    obtain ⟨e, he, hxe⟩ := sbAt_mem hx
    obtain ⟨y, _, rfl⟩ := List.mem_map.1 he
    have : x = _ := List.mem_singleton.1 hxe
    subst this
    exact ⟨cur, _, hc, .inr rfl⟩
end Go.Proofs.YtdnjgbckkmbmfaaGreat

namespace Go.Proofs.YtdnjgbckkmbmfaaGreat
open Go.RowKit

def VzBl (l f s : Sl) (hs : List SeH) (i : Nat) : Prop := (Value.slice l.a l.n l.c).ownBlock = some i ∨ (Value.slice f.a f.n f.c).ownBlock = some i ∨ NBl (.slice s.a s.n s.c) (hs.map seEl) i
theorem VzOwn.lt {w : World} {B : Nat} {l f s : Sl} {hs : List SeH} {d : VsD} (h : VzOwn w B l f s hs d) (i : Nat) (hi : VzBl l f s hs i) : B ≤ i ∧ i < w.heap.size := by
  rcases hi with hi | hi | hi
  · exact h.vo.lt i hi
  · exact h.fo.lt i hi
  · exact h.so.lt i hi
theorem nbl_so {w : World} {B C n m s t : Nat} {v u : Value} {cs : List Value} {hs : List SeH} (h : NOwn w B 55 3 v n (hs.map seEl)) (ho : w.ownsRow C t s u m cs) (h1 : t ≠ 55) (h2 : t ≠ 43) {i : Nat} (hi : u.ownBlock = some i) : ¬ NBl v (hs.map seEl) i := fun hb => by
  obtain ⟨cur, hc⟩ := own_kind ho hi
  obtain ⟨cur', T, hc', hT⟩ := nbl_se h hb
  rw [hc] at hc'
  injection hc' with hc'
  injection hc' with _ hc' _
  rcases hT with e | e
  · exact h1 (hc'.trans e)
  · exact h2 (hc'.trans e)
theorem nbl_sm {v : Value} {k : Nat} {hs : List SeH} {i : Nat} : NBl v ((seMh k hs).map seEl) i ↔ NBl v (hs.map seEl) i := by
  constructor
  · rintro (h | ⟨j, a, x, hx, hi⟩)
    · exact .inl h
    · right
      unfold sbAt at hx
      rw [List.getElem?_map] at hx
      by_cases hj : j < hs.length
      · rw [mkG_at seCnt seMk k hs j hj] at hx
        match a, hx with
        | 0, hx => injection hx with hx; subst hx; exact ⟨j, 0, _, (show sbAt (hs.map seEl) j 0 = some ⟨43, 4, hs[j].X.ws.length, .slice hs[j].s0.a hs[j].s0.n hs[j].s0.c, vcs hs[j].X.ws⟩ by unfold sbAt; rw [seEl_at hj]; rfl), hi⟩
        | a + 1, hx => cases hx
      · rw [List.getElem?_eq_none (by rw [mkG_len]; omega)] at hx
        cases hx
  · rintro (h | ⟨j, a, x, hx, hi⟩)
    · exact .inl h
    · right
      unfold sbAt at hx
      rw [List.getElem?_map] at hx
      by_cases hj : j < hs.length
      · rw [List.getElem?_eq_getElem hj] at hx
        match a, hx with
        | 0, hx =>
          injection hx with hx
          subst hx
          exact ⟨j, 0, ⟨43, 4, (seMk (kG seCnt k (hs.take j)) hs[j]).X.ws.length, .slice hs[j].s0.a hs[j].s0.n hs[j].s0.c, vcs (seMk (kG seCnt k (hs.take j)) hs[j]).X.ws⟩, (by unfold sbAt; rw [List.getElem?_map, mkG_at seCnt seMk k hs j hj]; rfl), hi⟩
        | a + 1, hx => cases hx
      · rw [List.getElem?_eq_none (by omega)] at hx
        cases hx
def vzK (k : Nat) (ln fn : Nat) (hs : List SeH) : Nat := kG seCnt (k + 4 * ln + 3 * fn) hs
def vzMd (k : Nat) (ln fn : Nat) (hs : List SeH) (next : Int) : VsD := ⟨next, markVs k ln, markFs (k + 4 * ln) fn, (seMh (k + 4 * ln + 3 * fn) hs).map (·.X)⟩
set_option maxRecDepth 100000 in
set_option maxHeartbeats 4000000 in
theorem markVersions_any (B k0 : Nat) (next : Int) (l f s : Sl) (hs : List SeH) (d : VsD) (w : World) (hp : 0 < k0) (hk : vzK k0 l.n f.n hs ≤ 9999990) (hO : VzOwn w B l f s hs d) :
    Calls Tryz.prog 25 #[.agg (vzC next l f s), .int .i64 (k0 : Int)] w fun e w' => e = .returned (.int .i64 ((vzK k0 l.n f.n hs : Nat) : Int)) ∧ VzOwn w' B l f s (seMh (k0 + 4 * l.n + 3 * f.n) hs) (vzMd k0 l.n f.n hs d.next) ∧ WrB (VzBl l f s hs) w w' := by
  obtain ⟨la, ln, lc⟩ := l
  obtain ⟨fa, fn, fc⟩ := f
  obtain ⟨sa, sn, sc⟩ := s
  unfold vzC
  simp only at hk ⊢
  obtain ⟨W, hW⟩ : ∃ W, W = w.alloc (.cells #[.int .i64 next, .slice la ln lc, .slice fa fn fc, .slice sa sn sc] 29) := ⟨_, rfl⟩
  have b0 : Below w.heap.size w W := by rw [hW]; exact (Below.refl _ _).alloc (Nat.le_refl _) _
  have kW : W.heap[w.heap.size]? = some (.cells #[.int .i64 next, .slice la ln lc, .slice fa fn fc, .slice sa sn sc] 29 (0, 0)) := by rw [hW]; exact heap_alloc_new _ _
  have O := hO.below b0
  have hln : ln = d.list.length := owns_n hO.vo
  have hfn : fn = d.fen.length := owns_n hO.fo
  have hsn : sn = hs.length := owns_n hO.so.row
  have km := kG_mono seCnt (k0 + 4 * ln + 3 * fn) hs
  unfold vzK at hk
  have APT := hide (show ∀ i, VzBl ⟨la, ln, lc⟩ ⟨fa, fn, fc⟩ ⟨sa, sn, sc⟩ hs i → i < w.heap.size from fun i hi => (hO.lt i hi).2)
  have zW : w.heap.size < W.heap.size := blk_lt kW
  have C1 := hide (markVersionS_any B la ln lc k0 d.list W hp (by omega) O.vo)
  have OO := hide O
  have KW := hide kW
  have WB := hide (show WrB (VzBl ⟨la, ln, lc⟩ ⟨fa, fn, fc⟩ ⟨sa, sn, sc⟩ hs) w W from WrB.of_below b0)
  have c1 := (heap_at kW 1).1
  rw [hW] at c1
  have HSN := hide hsn
  clear hO b0 kW O hln hfn hsn
  go_enter Tryz.func25, Tryz.ntmps25
  go_wp2_with fail
  rw [← hW]
  clear hW c1
  refine (unhide C1).mono ?_
  rintro e w1 ⟨rfl, ho1, hg1⟩
  have W1 := WrB.of_grown hg1
  have F1 := hide (rr_owns_wr (unhide OO).fo W1 (fun i hi => own_other (unhide OO).fo (unhide OO).vo (by decide) hi))
  have S1 := hide (NOwn.keep (unhide OO).so W1 (fun i hi e => (unhide OO).far i e hi))
  have V1 := hide (show VOwns w1 B (.slice la ln lc) (markVs k0 ln) from ho1)
  have K1 := hide ((W1.block w.heap.size zW (fun e => by have := unhide APT _ (.inl e); omega)).trans (unhide KW))
  have WB1 := hide ((unhide WB).seq (W1.weak (fun i e => .inl e)))
  have FAR := hide (unhide OO).far
  clear C1 ho1 hg1 W1 OO KW WB
  have c2 := (heap_at (unhide K1) 2).1
  obtain ⟨k1, hk1⟩ : ∃ k1, k1 = k0 + 4 * ln := ⟨_, rfl⟩
  rw [← hk1] at hk km ⊢
  have C2 := hide (markFenceS_any B fa fn fc k1 d.fen w1 (by omega) (by omega) (unhide F1))
  have HK1 := hide hk1
  have hk1p : 0 < k1 := by omega
  clear hk1
  go_wp2_with fail
  refine (unhide C2).mono ?_
  rintro e w2 ⟨rfl, ho2, hg2⟩
  have W2 := WrB.of_grown hg2
  have V2 := hide (rr_owns_wr (unhide V1) W2 (fun i hi => own_other (unhide V1) (unhide F1) (by decide) hi))
  have S2 := hide (NOwn.keep (unhide S1) W2 (fun i hi e => nbl_so (unhide S1) (unhide F1) (by decide) (by decide) e hi))
  have F2 := hide (show FOwns w2 B (.slice fa fn fc) (markFs k1 fn) from ho2)
  have K2 := hide ((W2.block w.heap.size (by have := (blk_lt (unhide K1)); omega) (fun e => by have := unhide APT _ (.inr (.inl e)); omega)).trans (unhide K1))
  have WB2 := hide ((unhide WB1).seq (W2.weak (fun i e => .inr (.inl e))))
  clear C2 ho2 hg2 W2 V1 F1 S1 K1 WB1 c2
  have c3 := (heap_at (unhide K2) 3).1
  obtain ⟨k2, hk2⟩ : ∃ k2, k2 = k1 + 3 * fn := ⟨_, rfl⟩
  rw [← hk2] at hk km ⊢
  have hk2p : 0 < k2 := by omega
  have HK2 := hide hk2
  have S2' := unhide S2
  unfold SeOwn at S2'
  rw [← unhide HSN] at S2'
  have C3 := hide (markSessionS_any B sa sn sc k2 hs w2 hk2p hk S2')
  have S2h := hide S2'
  clear hk2 S2' S2
  go_wp2_with fail
  refine (unhide C3).mono ?_
  rintro e w3 ⟨rfl, ho3, hw3⟩
  have V3 := hide (rr_owns_wr (unhide V2) hw3 (fun i hi hn => unhide FAR i hi hn))
  have F3 := hide (rr_owns_wr (unhide F2) hw3 (fun i hi hn => nbl_so (unhide S2h) (unhide F2) (by decide) (by decide) hi hn))
  have WB3 := hide ((unhide WB2).seq (hw3.weak (fun i e => .inr (.inr e))))
  have E := hide (show kG seCnt k2 hs = vzK k0 ln fn hs by unfold vzK; rw [unhide HK2, unhide HK1])
  have RES := hide (show VzOwn w3 B ⟨la, ln, lc⟩ ⟨fa, fn, fc⟩ ⟨sa, sn, sc⟩ (seMh k2 hs) (vzMd k0 ln fn hs d.next) from ⟨unhide V3, by
      show FOwns w3 B (.slice fa fn fc) (markFs (k0 + 4 * ln) fn)
      rw [← unhide HK1]
      exact unhide F3, by
      show NOwn w3 B 55 3 (.slice sa sn sc) (seMh k2 hs).length ((seMh k2 hs).map seEl)
      rw [mkG_len, ← unhide HSN]
      exact ho3, by
      show (seMh k2 hs).map (·.X) = (seMh (k0 + 4 * ln + 3 * fn) hs).map (·.X)
      rw [unhide HK2, unhide HK1], fun i hi hn => unhide FAR i hi (nbl_sm.1 hn)⟩)
  clear C3 ho3 hw3 V2 F2 S2h K2 WB2 c3
  go_wp2_with fail
  go_ret
  exact ⟨ret_int (by rw [unhide E]), by have h := unhide RES; rw [unhide HK2, unhide HK1] at h; exact h, unhide WB3⟩
set_option maxRecDepth 100000 in
set_option maxHeartbeats 4000000 in
theorem heldVersions_any (k0 : Nat) (next : Int) (l f s : Sl) (hs : List SeH) (w : World) (hp : 0 < k0) (hk : vzK k0 l.n f.n hs ≤ 9999990) (hv : VRow w l.a l.n (markVs k0 l.n)) (hf : FRow w f.a f.n (markFs (k0 + 4 * l.n) f.n)) (hs1 : SeIn w (.slice s.a s.n s.c) s.n (seMh (k0 + 4 * l.n + 3 * f.n) hs)) :
    Calls Tryz.prog 27 #[.agg (vzC next l f s), .int .i64 (k0 : Int)] w fun e w' => e = .returned (.int .i64 ((vzK k0 l.n f.n hs : Nat) : Int)) ∧ Below w.heap.size w w' := by
  obtain ⟨la, ln, lc⟩ := l
  obtain ⟨fa, fn, fc⟩ := f
  obtain ⟨sa, sn, sc⟩ := s
  unfold vzC
  simp only at hk hv hf hs1 ⊢
  obtain ⟨W, hW⟩ : ∃ W, W = w.alloc (.cells #[.int .i64 next, .slice la ln lc, .slice fa fn fc, .slice sa sn sc] 29) := ⟨_, rfl⟩
  have b0 : Below w.heap.size w W := by rw [hW]; exact (Below.refl _ _).alloc (Nat.le_refl _) _
  have kW : W.heap[w.heap.size]? = some (.cells #[.int .i64 next, .slice la ln lc, .slice fa fn fc, .slice sa sn sc] 29 (0, 0)) := by rw [hW]; exact heap_alloc_new _ _
  have km := kG_mono seCnt (k0 + 4 * ln + 3 * fn) hs
  unfold vzK at hk
  have C1 := hide (heldVersionS_any la ln lc k0 W hp (by omega) (hv.below b0))
  have HF := hide (hf.below b0)
  have HS := hide (hs1.below b0)
  have KW := hide kW
  have B0 := hide b0
  have c1 := (heap_at kW 1).1
  rw [hW] at c1
  clear hv hf hs1 b0 kW
  go_enter Tryz.func27, Tryz.ntmps27
  go_wp2_with fail
  rw [← hW]
  clear hW c1
  refine (unhide C1).mono ?_
  rintro e w1 ⟨rfl, hb1⟩
  have K1 := hide ((hb1.block w.heap.size (blk_lt (unhide KW))).trans (unhide KW))
  have B1 := hide ((unhide B0).trans (hb1.mono (unhide B0).size))
  have F1 := hide ((unhide HF).below hb1)
  have S1 := hide ((unhide HS).below hb1)
  obtain ⟨k1, hk1⟩ : ∃ k1, k1 = k0 + 4 * ln := ⟨_, rfl⟩
  rw [← hk1] at hk km F1 S1 ⊢
  have C2 := hide (heldFenceS_any fa fn fc k1 w1 (by omega) (by omega) (unhide F1))
  have HK1 := hide hk1
  have n1 : ¬ ((k1 : Int) < 0) := by omega
  have c2 := (heap_at (unhide K1) 2).1
  have hk1p : 0 < k1 := by omega
  clear C1 hb1 HF HS KW B0 hk1
  go_wp2_with fail
  refine (unhide C2).mono ?_
  rintro e w2 ⟨rfl, hb2⟩
  have K2 := hide ((hb2.block w.heap.size (blk_lt (unhide K1))).trans (unhide K1))
  have B2 := hide ((unhide B1).trans (hb2.mono (unhide B1).size))
  have S2 := hide ((unhide S1).below hb2)
  obtain ⟨k2, hk2⟩ : ∃ k2, k2 = k1 + 3 * fn := ⟨_, rfl⟩
  rw [← hk2] at hk km S2 ⊢
  have C3 := hide (heldSessionS_any sa sn sc k2 hs w2 (by omega) hk (unhide S2))
  have HK2 := hide hk2
  have n2 : ¬ ((k2 : Int) < 0) := by omega
  have c3 := (heap_at (unhide K2) 3).1
  clear C2 hb2 F1 S1 K1 B1 hk2 c2 n1
  go_wp2_with fail
  refine (unhide C3).mono ?_
  rintro e w3 ⟨rfl, hb3⟩
  have B3 := hide ((unhide B2).trans (hb3.mono (unhide B2).size))
  have E := hide (show kG seCnt k2 hs = vzK k0 ln fn hs by unfold vzK; rw [unhide HK2, unhide HK1])
  have n3 : ¬ (((kG seCnt k2 hs : Nat) : Int) < 0) := by omega
  clear C3 hb3 S2 K2 B2 c3 n2
  go_wp2_with fail
  go_ret
  exact ⟨ret_int (by rw [unhide E]), unhide B3⟩
end Go.Proofs.YtdnjgbckkmbmfaaGreat

namespace Go.Proofs.YtdnjgbckkmbmfaaGreat
open Go.RowKit

theorem VzOwn.off {P : Nat → Prop} {w w' : World} {B : Nat} {l f s : Sl} {hs : List SeH} {d : VsD} (h : VzOwn w B l f s hs d) (hw : WrB P w w') (hp : ∀ i, VzBl l f s hs i → ¬ P i) : VzOwn w' B l f s hs d :=
  h.apart hw (fun i hi => hp i (.inl hi)) (fun i hi => hp i (.inr (.inl hi))) (fun i hi => hp i (.inr (.inr hi)))
theorem eqVersZ (next : Int) (l1 f1 s1 : Sl) (hs1 : List SeH) (l2 f2 s2 : Sl) (hs2 : List SeH) (d : VsD) (w : World) (h1 : VzIn w l1 f1 s1 hs1 d) (h2 : VzIn w l2 f2 s2 hs2 d) (hd : vsN d ≤ 1048576) :
    Calls Tryz.prog 21 #[.agg (vzC next l1 f1 s1), .agg (vzC next l2 f2 s2)] w fun e w' => e = .returned (.bool true) ∧ Below w.heap.size w w' :=
  eqVersions_any next l1 f1 s1 l2 f2 s2 _ _ d w (vs_of_vz h1) (vs_of_vz h2) (vsfew_of h1 hd)
theorem sum_cnt (hs : List SeH) : (hs.map seCnt).sum = 2 * hs.length + 4 * ((hs.map (·.X)).map (fun s => s.ws.length)).sum := by
  induction hs with
  | nil => rfl
  | cons x r ih =>
    simp only [List.map_cons, List.sum_cons, List.length_cons]
    rw [ih]
    unfold seCnt
    omega
theorem vzK_le {w : World} {l f s : Sl} {hs : List SeH} {d : VsD} (h : VzIn w l f s hs d) (hd : vsN d ≤ 1048576) : vzK 1 l.n f.n hs ≤ 9999990 := by
  unfold vzK
  rw [kG_sum, sum_cnt, h.ss]
  have e1 := h.vr.1
  have e2 := h.fr.1
  have e3 := h.len
  unfold vsN at hd
  omega
theorem heldVersZ {w : World} {B : Nat} {l f s : Sl} {hs : List SeH} {nx : Int} (next : Int) (h : VzOwn w B l f s (seMh (1 + 4 * l.n + 3 * f.n) hs) (vzMd 1 l.n f.n hs nx)) (hk : vzK 1 l.n f.n hs ≤ 9999990) :
    Calls Tryz.prog 27 #[.agg (vzC next l f s), .int .i64 1] w fun e w' => e = .returned (.int .i64 ((vzK 1 l.n f.n hs : Nat) : Int)) ∧ Below w.heap.size w w' :=
  heldVersions_any 1 next l f s hs w (by omega) hk h.reads.vr h.reads.fr h.reads.sr
end Go.Proofs.YtdnjgbckkmbmfaaGreat

namespace Go.Proofs.YtdnjgbckkmbmfaaGreat
open Go.RowKit Go.Maps

set_option maxRecDepth 100000 in
set_option maxHeartbeats 1000000 in
theorem countUpTo_any (a : Option Addr) (n c : Nat) (L : List VerD) (t : Int) (w : World) (hn : n ≤ 1048576) (hr : VRow w a n L) :
    Calls Tryz.prog 92 #[.slice a n c, .int .i64 t] w fun e w' => e = .returned (.int .i64 (cnt L t : Nat)) ∧ w' = w := by
  have LN := hide hr.1
  have R := hide hr
  clear hr
  go_enter Tryz.func92, Tryz.ntmps92
  go_wp2_with fail
  go_loopw [5] (fun i wr => ∃ k : Nat, k ≤ n ∧ i = .int .i64 k ∧ Hid (∀ i (h : i < L.length), i < k → L[i].t ≤ t) ∧ Hid (wr = w)) (fun i _ => n - (intOf i).toNat)
  case atStart => exact ⟨0, Nat.zero_le _, rfl, (fun i _ hi => absurd hi (Nat.not_lt_zero _)), hide rfl⟩
  case round =>
    obtain ⟨k, hk, rfl, hA, hww⟩ := hrel
    have hww := unhide hww
    subst wr
    by_cases hlt : k < n
    · have hk2 : k < L.length := by rw [unhide LN]; exact hlt
      obtain ⟨b, off, rfl, d0, d1, d2, d3⟩ := (unhide R).2 k hk2
      have FY := hide (fun (h : L[k].t ≤ t) i (hi : i < L.length) (hik : i < k + 1) => show L[i].t ≤ t from if e : i < k then unhide hA i hi e else by
        obtain rfl : i = k := by omega
        exact h)
      have FZ := hide (fun (h : ¬ L[k].t ≤ t) => cnt_step hk2 (unhide hA) h)
      generalize L[k] = pd at *
      obtain ⟨pk, pt, pv, pg⟩ := pd
      simp only at d1 FY FZ
      clear d0 d2 d3 hA
      by_cases ht : pt ≤ t
      · have Z := hide (unhide FY ht)
        clear FY FZ
        go_wp2_with fail
        go_roundw
        case rel => exact ⟨k + 1, by omega, by go_num, unhide Z, by first | exact hide rfl | exact hide trivial⟩
        case measure => simp [intOf]; omega
      · have Z := hide (unhide FZ ht)
        clear FY FZ
        go_wp2_with fail
        go_ret
        exact ⟨ret_int (by rw [unhide Z]), rfl⟩
    · obtain rfl : k = n := by omega
      have Z := hide (show cnt L t = k by rw [cnt_all fun i h => unhide hA i h (by have := unhide LN; omega)]; exact unhide LN)
      go_wp2_with fail
      go_ret
      exact ⟨ret_int (by rw [unhide Z]), rfl⟩
set_option maxHeartbeats 1000000 in
theorem viewAt_any (m : Nat) (t : Int) (w : World) :
    Calls Tryz.prog 47 #[.map (some m), .int .i64 t] w fun e w' => e = .returned (.func (.func 91) #[] #[.pointer (some ⟨w.heap.size, 0, none⟩), .pointer (some ⟨w.heap.size + 1, 0, none⟩)]) ∧ w' = (w.alloc (.cells #[.map (some m)] 94)).alloc (.cells #[.int .i64 t] 3) := by
  have hmf : ∀ (fn : Fn) (first cap : Array Value) (w : World), (Instr.makeFunc fn first cap).run Tryz.prog w = .ok (.func fn first cap) w := fun _ _ _ _ => rfl
  go_enter Tryz.func47, Tryz.ntmps47
  go_wp2_with fail
  go_ret
  exact ⟨by simp, rfl⟩
theorem vowns_slice2 {w : World} {B : Nat} {v : Value} {ds : List VerD} (h : VOwns w B v ds) : ∃ a c, v = .slice a ds.length c := by
  rcases h.2 with ⟨rfl, hn⟩ | ⟨g, cap, cur, rfl, _⟩
  · exact ⟨none, 0, by rw [hn]⟩
  · exact ⟨_, _, rfl⟩
theorem wpList_lookup_his (w : World) {ops : Array Oper} {rest : List Oper} {o : Oper} {a : Act} {Q : Exit → Act → World → Prop}
    (hg : o.guard = none) (m x : Operand) (hop : o.op = Op.lookup 94 m x false) (b : Nat) (k : ByteArray) (v : Value) (hm : a.eval m = .map (some b)) (hx : a.eval x = .string k)
    (hrun : (Instr.lookup 94 (.map (some b)) (.string k) false).run Tryz.prog w = .ok v w) (hK : wpList Tryz.prog ops Q rest (a.put o.dst v) w) : wpList Tryz.prog ops Q (o :: rest) a w := by
  refine wpList_plain hg fun K' hK' => ?_
  unfold Oper.wp
  simp [execOp, hop, hm, hx, hrun, Result.andThen]
  exact hK' _ _ hK
set_option maxRecDepth 100000 in
set_option maxHeartbeats 4000000 in
theorem view_any (hb tb m N B : Nat) (f : ByteArray → Value) (ds : List VerD) (k : ByteArray) (t : Int) (w : World) (hH : HisAt w m N B f ds) (hok : okVs ds = true) (hl : ds.length ≤ 4096) (hk : k.size ≤ maxLen) (h1 : w.cell? ⟨hb, 0, none⟩ = some (.map (some m))) (h2 : w.cell? ⟨tb, 0, none⟩ = some (.int .i64 t)) :
    Calls Tryz.prog 91 #[.string k, .pointer (some ⟨hb, 0, none⟩), .pointer (some ⟨tb, 0, none⟩)] w fun e w' => VwRes ds k t w e w' := by
  have b0 : Below w.heap.size w (w.alloc (.cells #[.string ⟨#[]⟩, .int .i64 0, .string ⟨#[]⟩, .bool false] 43)) := (Below.refl _ _).alloc (Nat.le_refl _) _
  have LK := (hH.below b0).map.lookup hk
  have VR := hide (show ∀ u, Below w.heap.size w u → VOwns u B (f k) (grp ds k) from fun u hu => (hH.below hu).own k)
  have c1 := (b0.cell (p := ⟨hb, 0, none⟩) (cell_lt h1)).trans h1
  have c2 := (b0.cell (p := ⟨tb, 0, none⟩) (cell_lt h2)).trans h2
  have KR := hide (heap_alloc_new w (.cells #[.string ⟨#[]⟩, .int .i64 0, .string ⟨#[]⟩, .bool false] 43))
  have LC := hide (last_cnt (grp_rise hok k) t)
  have hgl := grp_len ds k
  have VA := hide (show verAt ds k t = match lastAt (grp ds k) t with | some d => if d.g = true then none else some d | none => none from rfl)
  obtain ⟨av, cv, hf⟩ := vowns_slice2 (hH.own k)
  rw [hf] at LK VR
  clear hH hok h1 h2 hf
  generalize grp ds k = L at *
  go_enter Tryz.func91, Tryz.ntmps91
  go_wp2_with (at_lookup; refine wpList_lookup_his _ rfl (.tmp 8) (.tmp 9) rfl m k _ rfl rfl LK ?_)
  generalize hW : w.alloc (.cells #[.string ⟨#[]⟩, .int .i64 0, .string ⟨#[]⟩, .bool false] 43) = W at *
  refine (countUpTo_any av L.length cv L t W (by omega) (vrow_of_owns (unhide VR W b0))).mono ?_
  rintro e w1 ⟨rfl, hww⟩
  subst w1
  have hcl := cnt_le L t
  generalize hcn : cnt L t = q at *
  by_cases hq : q = 0
  · subst hq
    have Z := hide (show verAt ds k t = none by rw [unhide VA, unhide LC]; rfl)
    clear LC VA
    obtain ⟨y0, y1, y2, y3⟩ : W.cell? ⟨w.heap.size, 0, none⟩ = some (.string ⟨#[]⟩) ∧ W.cell? ⟨w.heap.size, 1, none⟩ = some (.int .i64 0) ∧ W.cell? ⟨w.heap.size, 2, none⟩ = some (.string ⟨#[]⟩) ∧ W.cell? ⟨w.heap.size, 3, none⟩ = some (.bool false) := ⟨(heap_at (unhide KR) 0).1, (heap_at (unhide KR) 1).1, (heap_at (unhide KR) 2).1, (heap_at (unhide KR) 3).1⟩
    have f0 := (heap_at (unhide KR) 0).2
    have f1 := (heap_at (unhide KR) 1).2
    have f2 := (heap_at (unhide KR) 2).2
    have f3 := (heap_at (unhide KR) 3).2
    have q3 : w.heap.size ≤ w.heap.size := Nat.le_refl _
    go_wp2_with fail
    refine bodyPost_ret (v := .tuple #[vv noV, .bool false]) (by unfold vv noV; simp [results, Tryz.results91, go_sem, *] <;> rfl) rfl ?_
    exact .inl ⟨noV, rfl, unhide Z, (((b0.setCell (p := ⟨w.heap.size, 0, none⟩) q3 _).setCell (p := ⟨w.heap.size, 1, none⟩) q3 _).setCell (p := ⟨w.heap.size, 2, none⟩) q3 _).setCell (p := ⟨w.heap.size, 3, none⟩) q3 _⟩
  · have hql : q - 1 < L.length := by omega
    have hqi : (0 : Int) ≤ (q : Int) - 1 := by omega
    have hqi1 : (1 : Int) ≤ (q : Int) := by omega
    have hqi2 : (q : Int) - 1 < (L.length : Int) := by omega
    have hqt : ((q : Int) - 1).toNat = q - 1 := by omega
    have hwr : IntKind.i64.wrap ((q : Int) - 1) = (q : Int) - 1 := by rw [IntKind.wrap_i64]; omega
    have hq0 : ((q : Int) == 0) = false := by simpa using hq
    obtain ⟨b, off, ea, d0, d1, d2, d3⟩ := (vrow_of_owns (unhide VR W b0)).2 (q - 1) hql
    have ZZ := hide (show verAt ds k t = if L[q - 1].g = true then none else some L[q - 1] by rw [unhide VA, unhide LC, if_neg hq, List.getElem?_eq_getElem hql])
    subst ea
    clear LC VA
    generalize L[q - 1] = xd at *
    obtain ⟨xk, xt, xv, xg⟩ := xd
    simp only at d0 d1 d2 d3 ZZ
    have NEQ := hide hq
    clear hq
    have zs : W.heap.size = w.heap.size + 1 := by rw [← hW]; simp
    have bL : Below W.heap.size W (W.alloc (.cells #[.string xk, .int .i64 xt, .string xv, .bool xg] 43)) := (Below.refl _ _).alloc (Nat.le_refl _) _
    have KL := hide (heap_alloc_new W (.cells #[.string xk, .int .i64 xt, .string xv, .bool xg] 43))
    have KR2 := hide ((bL.block w.heap.size (by omega)).trans (unhide KR))
    have BL := hide (b0.trans (bL.mono b0.size))
    clear bL KR hW
    go_wp2_with (at_lookup; refine wpList_lookup_his _ rfl (.tmp 16) (.tmp 17) rfl m k _ rfl rfl LK ?_)
    generalize W.alloc (.cells #[.string xk, .int .i64 xt, .string xv, .bool xg] 43) = W6 at *
    generalize hlb : W.heap.size = lb at *
    have hne : w.heap.size ≠ lb := by omega
    generalize hrb : w.heap.size = rb at *
    obtain rfl : lb = rb + 1 := by omega
    clear d0 d1 d2 d3 c1 c2 LK VR b0 zs
    have SK := hide (show ∀ u : World, u.heap[rb + 1]? = some (.cells #[.string xk, .int .i64 xt, .string xv, .bool xg] 43 (0, 0)) → (fun u : World => u.cell? ⟨rb + 1, 0, none⟩ = some (.string xk) ∧ u.cell? ⟨rb + 1, 1, none⟩ = some (.int .i64 xt) ∧ u.cell? ⟨rb + 1, 2, none⟩ = some (.string xv) ∧ u.cell? ⟨rb + 1, 3, none⟩ = some (.bool xg)) u from fun u hk => ⟨(heap_at hk 0).1, (heap_at hk 1).1, (heap_at hk 2).1, (heap_at hk 3).1⟩)
    obtain ⟨y0, y1, y2, y3⟩ : W6.cell? ⟨rb, 0, none⟩ = some (.string ⟨#[]⟩) ∧ W6.cell? ⟨rb, 1, none⟩ = some (.int .i64 0) ∧ W6.cell? ⟨rb, 2, none⟩ = some (.string ⟨#[]⟩) ∧ W6.cell? ⟨rb, 3, none⟩ = some (.bool false) := ⟨(heap_at (unhide KR2) 0).1, (heap_at (unhide KR2) 1).1, (heap_at (unhide KR2) 2).1, (heap_at (unhide KR2) 3).1⟩
    have f0 := (heap_at (unhide KR2) 0).2
    have f1 := (heap_at (unhide KR2) 1).2
    have f2 := (heap_at (unhide KR2) 2).2
    have f3 := (heap_at (unhide KR2) 3).2
    have KS := hide (show ((((W6.drew.setCell ⟨rb, 0, none⟩ (.string xk)).setCell ⟨rb, 1, none⟩ (.int .i64 xt)).setCell ⟨rb, 2, none⟩ (.string xv)).setCell ⟨rb, 3, none⟩ (.bool xg)).heap[rb + 1]? = some (.cells #[.string xk, .int .i64 xt, .string xv, .bool xg] 43 (0, 0)) from
      (Below.heap_setCell _ _ _ _ hne.symm).trans ((Below.heap_setCell _ _ _ _ hne.symm).trans ((Below.heap_setCell _ _ _ _ hne.symm).trans ((Below.heap_setCell _ _ _ _ hne.symm).trans (unhide KL)))))
    refine wp_region_held_drew (S := (fun u : World => u.cell? ⟨rb + 1, 0, none⟩ = some (.string xk) ∧ u.cell? ⟨rb + 1, 1, none⟩ = some (.int .i64 xt) ∧ u.cell? ⟨rb + 1, 2, none⟩ = some (.string xv) ∧ u.cell? ⟨rb + 1, 3, none⟩ = some (.bool xg))) (by kernel_rfl) (unhide SK _ (unhide KL)) (fun hHeld => ?_)
    refine tk 0 23 (v := ?v1) rfl rfl ?h1 hHeld ?r1
    case h1 => (intro w hSw; (try dsimp only at hSw); go_simp; try (with_reducible rfl))
    simp only [Act.put, List.setIfInBounds_toArray, List.set_cons_zero, List.set_cons_succ]
    refine tk 1 24 (v := ?v2) rfl rfl ?h2 hHeld ?r2
    case h2 => (intro w hSw; (try dsimp only at hSw); go_simp; try (with_reducible rfl))
    simp only [Act.put, List.setIfInBounds_toArray, List.set_cons_zero, List.set_cons_succ]
    refine tk 2 25 (v := ?v3) rfl rfl ?h3 hHeld ?r3
    case h3 => (intro w hSw; (try dsimp only at hSw); go_simp; try (with_reducible rfl))
    simp only [Act.put, List.setIfInBounds_toArray, List.set_cons_zero, List.set_cons_succ]
    refine tk 3 26 (v := ?v4) rfl rfl ?h4 hHeld ?r4
    case h4 => (intro w hSw; (try dsimp only at hSw); go_simp; try (with_reducible rfl))
    simp only [Act.put, List.setIfInBounds_toArray, List.set_cons_zero, List.set_cons_succ]
    refine wpAnyH_ready (rs := [4]) (by kernel_rfl) (by simp) ?_
    refine AllReadyH.cons rfl (fun K hK => ?_) AllReadyH.nil
    go_simp
    refine hK.out _ _ (unhide SK _ (unhide KS)) (fun hHeld => ?_)
    clear hK K
    refine tk 5 5 (v := ?v5) rfl rfl ?h5 hHeld ?r5
    case h5 => (intro w hSw; (try dsimp only at hSw); go_simp; try (with_reducible rfl))
    simp only [Act.put, List.setIfInBounds_toArray, List.set_cons_zero, List.set_cons_succ]
    refine wpAnyH_done (by kernel_rfl) ?_ _
    subst hrb
    have q3 : w.heap.size ≤ w.heap.size := Nat.le_refl _
    have BF := hide ((((((unhide BL).drew.setCell (p := ⟨w.heap.size, 0, none⟩) q3 (.string xk)).setCell (p := ⟨w.heap.size, 1, none⟩) q3 (.int .i64 xt)).setCell (p := ⟨w.heap.size, 2, none⟩) q3 (.string xv)).setCell (p := ⟨w.heap.size, 3, none⟩) q3 (.bool xg)))
    go_wp2_with fail
    cases xg
    · refine bodyPost_ret (v := .tuple #[vv ⟨xk, xt, xv, false⟩, .bool true]) (by unfold vv; simp [results, Tryz.results91, go_sem, *] <;> rfl) rfl ?_
      exact .inr ⟨⟨xk, xt, xv, false⟩, rfl, by simpa using unhide ZZ, unhide BF⟩
    · refine bodyPost_ret (v := .tuple #[vv ⟨xk, xt, xv, true⟩, .bool false]) (by unfold vv; simp [results, Tryz.results91, go_sem, *] <;> rfl) rfl ?_
      exact .inl ⟨⟨xk, xt, xv, true⟩, rfl, by simpa using unhide ZZ, unhide BF⟩
end Go.Proofs.YtdnjgbckkmbmfaaGreat
