/-
  VcG, ScG, OsA, FcG, LdA, LgA, LgB, VnI, VnS, LgC, VaA, HpL, PrG, PuA in one.
-/
import Derived.Test.YtcflepnckjappaaGreatReAll2
import Derived.Test.YtcflepnckjappaaGreatReAll7
import Derived.Test.YtcflepnckjappaaGreatSsB
import Derived.Test.YtcflepnckjappaaGreatReAll3
import Derived.Test.YtcflepnckjappaaGreatReAll5
import Derived.Deep.Cut
import Derived.Test.YtcflepnckjappaaGreatReAll1
import Derived.Test.YtcflepnckjappaaGreatVrT
import Derived.Test.YtcflepnckjappaaGreatAppL
import Derived.Test.YtcflepnckjappaaGreatReAll4
import Derived.Test.YtcflepnckjappaaGreatBase
import Derived.Maps.RangeWalk
import Derived.Sort.EncStr
namespace Go.Proofs.YtcflepnckjappaaGreat
open Go.RowKit

/-- append(a row of the call's own, a list...), nil or not. -/
theorem run_appV {w : World} {B : Nat} {v : Value} {a : Option Addr} {n c : Nat} {xs ds : List VerD} (ty : TypeId) (hO : VOwns w B v xs) (hR : VRow w a n ds) (hx : xs.length ≤ 2000000) (hn : n ≤ 2000000) (hc : a = none → c = 0) (hB : B ≤ w.heap.size) :
    ∃ v' w', (Builtin.append_ #[25, 25] ty #[v, .slice a n c]).run Tryz.prog w = .ok v' w' ∧ VOwns w' B v' (xs ++ ds) ∧ w.grownBy w' v.ownBlock ∧ (v ≠ .slice none 0 0 → v' ≠ .slice none 0 0) := by
  obtain ⟨i0, hi0, hz0, hz1, hz2⟩ := info_parts Tryz.infoVersion
  cases a with
  | none =>
    obtain rfl := hc rfl
    obtain ⟨rfl, rfl⟩ := vrow_none hR
    exact ⟨v, w, run_append_owned_none (P := Tryz.prog) w B 25 ty 51 i0 4 Tryz.underlying25 hi0 _ _ _ hO, by rw [List.append_nil]; exact hO, ⟨rfl, rfl, rfl, Nat.le_refl _, fun _ _ _ => rfl⟩, fun h => h⟩
  | some ad =>
    obtain ⟨v', w', hr, ho, hg, hv⟩ := run_append_own (P := Tryz.prog) w B 25 ty 51 i0 (.agg #[.string ByteArray.empty, .int .i64 0, .string ByteArray.empty, .bool false]) 4 48 Tryz.underlying25 hi0 hz0 hz1 hz2 rfl (by decide) _ _ _ hO ad n c (vcs ds) (by rw [vcs_len, hR.1]) (vrow_src hR) (vcs_one _) (by unfold maxLen; omega) (by omega) hB
    refine ⟨v', w', hr, ?_, hg, fun h h' => h (hv.1 h').1⟩
    unfold VOwns
    rw [vcs_append, List.length_append, hR.1]
    exact ho
set_option maxRecDepth 100000 in
set_option maxHeartbeats 4000000 in
theorem growV (n : Nat) (w : World) (hn : n ≤ 2000000) :
    Calls Tryz.prog 288 #[.slice none 0 0, .int .i64 (n : Int)] w fun e w' => ∃ v, e = .returned v ∧ VOwns w' w.heap.size v [] ∧ (0 < n → v ≠ .slice none 0 0) ∧ Below w.heap.size w w' := by
  obtain ⟨i0, hi0, hz0, hz1, hz2⟩ := info_parts Tryz.infoVersion
  by_cases h0 : 0 < n
  · have hr := Lib.run_append_nil_zeros (P := Tryz.prog) w 25 3 25 51 i0 (.agg #[.string ByteArray.empty, .int .i64 0, .string ByteArray.empty, .bool false]) .i64 .i64 Tryz.underlying25 Tryz.underlying3 hi0 hz0 n h0 (by omega) (by omega) (by rw [hz2]; omega)
    have HO := hide (grow_owns (w := w) (B := w.heap.size) (e := 51) (size := 4) (n := n) (z := .agg #[.string ByteArray.empty, .int .i64 0, .string ByteArray.empty, .bool false]) rfl (by unfold maxLen; omega) (Nat.le_refl _))
    have HB := hide (show Below w.heap.size w _ from ((Below.refl w.heap.size w).drew.alloc (Nat.le_refl _) (.cells (Builtin.zeroCells (Value.cells (.agg #[.string ByteArray.empty, .int .i64 0, .string ByteArray.empty, .bool false])) n ++ Builtin.zeroCells (Value.cells (.agg #[.string ByteArray.empty, .int .i64 0, .string ByteArray.empty, .bool false])) (grownCap w n 0 51 - n)) 51)))
    obtain ⟨W, hW⟩ : ∃ W, W = w.drew.alloc (.cells (Builtin.zeroCells (Value.cells (.agg #[.string ByteArray.empty, .int .i64 0, .string ByteArray.empty, .bool false])) n ++ Builtin.zeroCells (Value.cells (.agg #[.string ByteArray.empty, .int .i64 0, .string ByteArray.empty, .bool false])) (grownCap w n 0 51 - n)) 51) := ⟨_, rfl⟩
    rw [← hW] at hr HO HB
    generalize grownCap w n 0 51 = cap at *
    clear hW
    go_enter Tryz.func288, Tryz.ntmps288
    go_wp2_with (at_builtin; refine Lib.wpList_append_run _ rfl _ _ 25 3 rfl _ _ rfl rfl _ W hr ?_)
    go_ret
    exact ⟨.slice (some ⟨w.heap.size, 0, none⟩) 0 cap, rfl, unhide HO, fun _ h => (by cases h), unhide HB⟩
  · obtain rfl : n = 0 := by omega
    go_enter Tryz.func288, Tryz.ntmps288
    go_wp2_with fail
    go_ret
    exact ⟨.slice none 0 0, rfl, World.ownsRow_nil _ _ _ _, fun h => absurd h (by omega), Below.refl _ _⟩
set_option maxRecDepth 100000 in
set_option maxHeartbeats 4000000 in
theorem concatV1 (ob : Nat) (a : Option Addr) (n c : Nat) (es : List VerD) (w : World) (hc : w.cell? ⟨ob, 0, none⟩ = some (.slice a n c)) (hR : VRow w a n es) (hcn : a = none → c = 0) (hn : n ≤ 1100000) :
    Calls Tryz.prog 225 #[.slice (some ⟨ob, 0, none⟩) 1 1] w fun e w' => ∃ v, e = .returned v ∧ VOwns w' w.heap.size v es ∧ Below w.heap.size w w' := by
  have R := hide hR
  have hob := cell_lt hc
  clear hR
  go_enter Tryz.func225, Tryz.ntmps225
  go_wp2_with fail
  refine wp_loop_rounds 2 ?_
  rw [rounds_succ]
  go_wp2_with fail
  rw [rounds_succ]
  go_wp2_with fail
  refine (growV n w (by omega)).mono ?_
  rintro e w1 ⟨v1, rfl, hO, _, hb⟩
  obtain ⟨v2, w2, hr, hO2, hg2, _⟩ := run_appV (c := c) 25 hO ((unhide R).below hb) (by simp) (by omega) hcn hb.size
  have hc1 := (hb.cell (p := ⟨ob, 0, none⟩) hob).trans hc
  have B2 := hide (hb.trans ((Below.refl w.heap.size w1).grown hg2 hb.size (fun k hk => (hO.lt k hk).1)))
  have O2 := hide (show VOwns w2 w.heap.size v2 es from hO2)
  clear hO hO2 hg2 hb R
  go_wp2_with fail
  refine wp_loop_rounds 2 ?_
  rw [rounds_succ]
  go_wp2_with (at_builtin; refine wpAppE rfl _ _ 25 rfl _ _ v2 w2 rfl rfl hr ?_)
  rw [rounds_succ]
  go_wp2_with fail
  go_ret
  exact ⟨v2, rfl, unhide O2, unhide B2⟩
end Go.Proofs.YtcflepnckjappaaGreat

namespace Go.Proofs.YtcflepnckjappaaGreat
open Go.RowKit

theorem srow_src {w : World} {ad : Addr} {n : Nat} {ds : List SesR} (h : SRow w (some ad) n ds) : ∀ t u, (scs ds)[t]? = some u → w.cell? (ad.add t) = some u := by
  intro t u hu
  have hl : t < ds.length * 3 := by
    have := (List.getElem?_eq_some_iff.1 hu).1
    rwa [scs_len] at this
  obtain ⟨m, r, hr, rfl⟩ : ∃ m r, r < 3 ∧ t = m * 3 + r := ⟨t / 3, t % 3, Nat.mod_lt _ (by omega), by omega⟩
  have hm : m < ds.length := by omega
  obtain ⟨b, off, e, c0, c1, c2⟩ := h.2 m hm
  injection e with e
  subst e
  rw [Addr.add_lit]
  obtain ⟨a0, a1, a2⟩ := scs_at ds m hm
  match r, hr with
  | 0, _ => rw [Nat.add_zero] at hu ⊢; rw [a0] at hu; rw [c0, ← hu]
  | 1, _ => rw [a1] at hu; rw [← Nat.add_assoc, c1, ← hu]
  | 2, _ => rw [a2] at hu; rw [← Nat.add_assoc, c2, ← hu]
theorem srow_none {w : World} {n : Nat} {ds : List SesR} (h : SRow w none n ds) : n = 0 ∧ ds = [] := by
  have h0 : ds.length = 0 := by
    rcases Nat.eq_zero_or_pos ds.length with h' | h'
    · exact h'
    · obtain ⟨_, _, e, _⟩ := h.2 0 h'; cases e
  exact ⟨by have := h.1; omega, List.eq_nil_of_length_eq_zero h0⟩
/-- append(a row of the call's own, a list...), nil or not. -/
theorem run_appS {w : World} {B : Nat} {v : Value} {a : Option Addr} {n c : Nat} {xs ds : List SesR} (ty : TypeId) (hO : SOwns w B v xs) (hR : SRow w a n ds) (hx : xs.length ≤ 2000000) (hn : n ≤ 2000000) (hc : a = none → c = 0) (hB : B ≤ w.heap.size) :
    ∃ v' w', (Builtin.append_ #[27, 27] ty #[v, .slice a n c]).run Tryz.prog w = .ok v' w' ∧ SOwns w' B v' (xs ++ ds) ∧ w.grownBy w' v.ownBlock ∧ (v ≠ .slice none 0 0 → v' ≠ .slice none 0 0) := by
  obtain ⟨i0, hi0, hz0, hz1, hz2⟩ := info_parts Tryz.infoSession
  cases a with
  | none =>
    obtain rfl := hc rfl
    obtain ⟨rfl, rfl⟩ := srow_none hR
    exact ⟨v, w, run_append_owned_none (P := Tryz.prog) w B 27 ty 212 i0 3 Tryz.underlying27 hi0 _ _ _ hO, by rw [List.append_nil]; exact hO, ⟨rfl, rfl, rfl, Nat.le_refl _, fun _ _ _ => rfl⟩, fun h => h⟩
  | some ad =>
    obtain ⟨v', w', hr, ho, hg, hv⟩ := run_append_own (P := Tryz.prog) w B 27 ty 212 i0 (.agg #[.bool false, .int .i64 0, .slice none 0 0]) 3 40 Tryz.underlying27 hi0 hz0 hz1 hz2 rfl (by decide) _ _ _ hO ad n c (scs ds) (by rw [scs_len, hR.1]) (srow_src hR) (scs_one _) (by unfold maxLen; omega) (by omega) hB
    refine ⟨v', w', hr, ?_, hg, fun h h' => h (hv.1 h').1⟩
    unfold SOwns
    rw [scs_append, List.length_append, hR.1]
    exact ho
set_option maxRecDepth 100000 in
set_option maxHeartbeats 4000000 in
theorem growS (n : Nat) (w : World) (hn : n ≤ 2000000) :
    Calls Tryz.prog 287 #[.slice none 0 0, .int .i64 (n : Int)] w fun e w' => ∃ v, e = .returned v ∧ SOwns w' w.heap.size v [] ∧ (0 < n → v ≠ .slice none 0 0) ∧ Below w.heap.size w w' := by
  obtain ⟨i0, hi0, hz0, hz1, hz2⟩ := info_parts Tryz.infoSession
  by_cases h0 : 0 < n
  · have hr := Lib.run_append_nil_zeros (P := Tryz.prog) w 27 3 27 212 i0 (.agg #[.bool false, .int .i64 0, .slice none 0 0]) .i64 .i64 Tryz.underlying27 Tryz.underlying3 hi0 hz0 n h0 (by omega) (by omega) (by rw [hz2]; omega)
    have HO := hide (grow_owns (w := w) (B := w.heap.size) (e := 212) (size := 3) (n := n) (z := .agg #[.bool false, .int .i64 0, .slice none 0 0]) rfl (by unfold maxLen; omega) (Nat.le_refl _))
    have HB := hide (show Below w.heap.size w _ from ((Below.refl w.heap.size w).drew.alloc (Nat.le_refl _) (.cells (Builtin.zeroCells (Value.cells (.agg #[.bool false, .int .i64 0, .slice none 0 0])) n ++ Builtin.zeroCells (Value.cells (.agg #[.bool false, .int .i64 0, .slice none 0 0])) (grownCap w n 0 212 - n)) 212)))
    obtain ⟨W, hW⟩ : ∃ W, W = w.drew.alloc (.cells (Builtin.zeroCells (Value.cells (.agg #[.bool false, .int .i64 0, .slice none 0 0])) n ++ Builtin.zeroCells (Value.cells (.agg #[.bool false, .int .i64 0, .slice none 0 0])) (grownCap w n 0 212 - n)) 212) := ⟨_, rfl⟩
    rw [← hW] at hr HO HB
    generalize grownCap w n 0 212 = cap at *
    clear hW
    go_enter Tryz.func287, Tryz.ntmps287
    go_wp2_with (at_builtin; refine Lib.wpList_append_run _ rfl _ _ 27 3 rfl _ _ rfl rfl _ W hr ?_)
    go_ret
    exact ⟨.slice (some ⟨w.heap.size, 0, none⟩) 0 cap, rfl, unhide HO, fun _ h => (by cases h), unhide HB⟩
  · obtain rfl : n = 0 := by omega
    go_enter Tryz.func287, Tryz.ntmps287
    go_wp2_with fail
    go_ret
    exact ⟨.slice none 0 0, rfl, World.ownsRow_nil _ _ _ _, fun h => absurd h (by omega), Below.refl _ _⟩
set_option maxRecDepth 100000 in
set_option maxHeartbeats 4000000 in
theorem concatS1 (ob : Nat) (a : Option Addr) (n c : Nat) (es : List SesR) (w : World) (hc : w.cell? ⟨ob, 0, none⟩ = some (.slice a n c)) (hR : SRow w a n es) (hcn : a = none → c = 0) (hn : n ≤ 1100000) :
    Calls Tryz.prog 224 #[.slice (some ⟨ob, 0, none⟩) 1 1] w fun e w' => ∃ v, e = .returned v ∧ SOwns w' w.heap.size v es ∧ Below w.heap.size w w' := by
  have R := hide hR
  have hob := cell_lt hc
  clear hR
  go_enter Tryz.func224, Tryz.ntmps224
  go_wp2_with fail
  refine wp_loop_rounds 2 ?_
  rw [rounds_succ]
  go_wp2_with fail
  rw [rounds_succ]
  go_wp2_with fail
  refine (growS n w (by omega)).mono ?_
  rintro e w1 ⟨v1, rfl, hO, _, hb⟩
  obtain ⟨v2, w2, hr, hO2, hg2, _⟩ := run_appS (c := c) 27 hO ((unhide R).below hb) (by simp) (by omega) hcn hb.size
  have hc1 := (hb.cell (p := ⟨ob, 0, none⟩) hob).trans hc
  have B2 := hide (hb.trans ((Below.refl w.heap.size w1).grown hg2 hb.size (fun k hk => (hO.lt k hk).1)))
  have O2 := hide (show SOwns w2 w.heap.size v2 es from hO2)
  clear hO hO2 hg2 hb R
  go_wp2_with fail
  refine wp_loop_rounds 2 ?_
  rw [rounds_succ]
  go_wp2_with (at_builtin; refine wpAppE rfl _ _ 27 rfl _ _ v2 w2 rfl rfl hr ?_)
  rw [rounds_succ]
  go_wp2_with fail
  go_ret
  exact ⟨v2, rfl, unhide O2, unhide B2⟩
end Go.Proofs.YtcflepnckjappaaGreat

namespace Go.Proofs.YtcflepnckjappaaGreat
open Go.RowKit

/-- A session whose writes are not its own yet. -/
def flE (h : SeH) : El := ⟨(seEl h).hd, []⟩
theorem scs_flat : ∀ hs : List SeH, scs (hs.map seR) = (hs.map flE).flatMap (·.hd)
  | [] => rfl
  | h :: r => by
    rw [List.map_cons, List.map_cons, List.flatMap_cons, scs, scs_flat r]
    rfl
theorem srow_of_in {w : World} {s : Sl} {hs : List SeH} (h : SeIn w (.slice s.a s.n s.c) s.n hs) : SRow w s.a s.n (hs.map seR) := by
  have hl : hs.length = s.n := by have := h.len; rw [List.length_map] at this; exact this
  refine ⟨by rw [List.length_map]; exact hl, fun i hi => ?_⟩
  rw [List.length_map] at hi
  obtain ⟨b, off, e, _, c0, c1, c2⟩ := SeIn.cells h hi
  refine ⟨b, off, e, ?_, ?_, ?_⟩
  · rw [List.getElem_map]; exact c0
  · rw [List.getElem_map]; exact c1
  · rw [List.getElem_map]; exact c2
theorem os_at {done hs : List SeH} {k : Nat} (hd : done.length = k) (hk : k < hs.length) : (done.map seEl ++ (hs.drop k).map flE)[k]? = some (flE hs[k]) := by
  rw [List.getElem?_append_right (by rw [List.length_map]; omega), List.length_map, hd, Nat.sub_self, List.drop_eq_getElem_cons hk]
  rfl
theorem os_set {done hs : List SeH} {k : Nat} (hd : done.length = k) (hk : k < hs.length) (x : SeH) : (done.map seEl ++ (hs.drop k).map flE).set k (seEl x) = (done ++ [x]).map seEl ++ (hs.drop (k + 1)).map flE := by
  rw [List.set_append_right _ _ (by rw [List.length_map]; omega), List.length_map, hd, Nat.sub_self, List.drop_eq_getElem_cons hk, List.map_append, List.append_assoc]
  rfl
/-- A session's writes laid anew. -/
theorem os_step {wr w5 : World} {B C g n c k : Nat} {hs done : List SeH} (h : NOwn wr B 212 3 (.slice (some ⟨g, 0, none⟩) n c) n (done.map seEl ++ (hs.drop k).map flE)) (hd : done.length = k) (hk : k < hs.length) (hb : Below wr.heap.size wr w5) (q : Sl) (ho : VOwns w5 C (.slice q.a q.n q.c) hs[k].X.ws) (hC : wr.heap.size ≤ C) (hBC : B ≤ C) :
    NOwn (w5.setCell ⟨g, k * 3 + 2, none⟩ (.slice q.a q.n q.c)) B 212 3 (.slice (some ⟨g, 0, none⟩) n c) n ((done ++ [(⟨hs[k].X, q⟩ : SeH)]).map seEl ++ (hs.drop (k + 1)).map flE) ∧ WrB (fun i => i = g) w5 (w5.setCell ⟨g, k * 3 + 2, none⟩ (.slice q.a q.n q.c)) ∧ w5.cell? ⟨g, k * 3 + 2, none⟩ = some (.slice hs[k].s0.a hs[k].s0.n hs[k].s0.c) ∧ w5.frozen? ⟨g, k * 3 + 2, none⟩ = false := by
  have hi := os_at hd hk
  have h1 := h.addSb (xs := [(⟨51, 4, hs[k].X.ws.length, .slice q.a q.n q.c, vcs hs[k].X.ws⟩ : Sb)]) hi hb hC hBC (fun x hx => by rw [List.mem_singleton.1 hx]; exact ho) (fun a b x y hx hy hab => by
    match a, hx, b, hy with
    | 0, _, 0, _ => exact absurd rfl hab
    | a + 1, hx, _, _ => cases hx
    | 0, _, b + 1, hy => cases hy)
  have hl := (List.getElem?_eq_some_iff.1 hi).1
  have h2 := h1.setHd (j := 2) (List.getElem?_set_self hl) (by decide) (.slice q.a q.n q.c)
  rw [List.set_set] at h2
  refine ⟨?_, h2.2, h1.cell (j := 2) (List.getElem?_set_self hl) rfl, h1.free _⟩
  have h3 := h2.1
  have e : (⟨(flE hs[k]).hd.set 2 (.slice q.a q.n q.c), [⟨51, 4, hs[k].X.ws.length, .slice q.a q.n q.c, vcs hs[k].X.ws⟩]⟩ : El) = seEl ⟨hs[k].X, q⟩ := rfl
  rw [e, os_set hd hk] at h3
  exact h3
set_option maxRecDepth 100000 in
set_option maxHeartbeats 4000000 in
theorem ownSessions_any (s : Sl) (hs : List SeH) (w : World) (hI : SeIn w (.slice s.a s.n s.c) s.n hs) (hcs : s.a = none → s.c = 0) (hcw : ∀ h ∈ hs, Cap h.s0) (hn : s.n ≤ 1048576) (hwn : ∀ h ∈ hs, h.s0.n ≤ 1048576) :
    Calls Tryz.prog 146 #[.slice s.a s.n s.c] w fun e w' => ∃ (s' : Sl) (hs' : List SeH), e = .returned (.slice s'.a s'.n s'.c) ∧ SeOwn w' w.heap.size (.slice s'.a s'.n s'.c) hs' ∧ hs'.map (·.X) = hs.map (·.X) ∧ Below w.heap.size w w' := by
  obtain ⟨W, hW⟩ : ∃ W, W = w.alloc (.cells #[.slice s.a s.n s.c] 27) := ⟨_, rfl⟩
  have b1 : Below w.heap.size w W := by subst hW; exact (Below.refl _ _).alloc (Nat.le_refl _) _
  have c1 : W.cell? ⟨w.heap.size, 0, none⟩ = some (.slice s.a s.n s.c) := by subst hW; exact (heap_at (heap_alloc_new _ _) 0).1
  have hl : hs.length = s.n := by have := hI.len; rw [List.length_map] at this; exact this
  have CS := hide (concatS1 w.heap.size s.a s.n s.c (hs.map seR) W c1 ((srow_of_in hI).below b1) hcs (by omega))
  have BH := hide b1
  have HI := hide hI
  have CW := hide hcw
  have WN := hide hwn
  obtain ⟨sa, sn, sc⟩ := s
  simp only at hW CS hn hl HI ⊢
  clear b1 c1 hI hcw hwn hcs
  go_enter Tryz.func146, Tryz.ntmps146
  go_wp2_with fail
  rw [← hW]
  clear hW
  refine (unhide CS).mono ?_
  rintro e w1 ⟨v, rfl, hO, hb⟩
  obtain ⟨⟨va, vn, vc⟩, rfl, hvn⟩ := v_slice hO
  simp only [List.length_map] at hvn
  obtain rfl : vn = sn := by omega
  have N0 := hide (show NOwn w1 w.heap.size 212 3 (.slice va vn vc) vn (([] : List SeH).map seEl ++ (hs.drop 0).map flE) by
    have h0 := gd_base hO (unhide BH).size
    rw [scs_flat, List.length_map, hl] at h0
    exact NOwn.flat h0 (by simpa using hl) (fun e he => by obtain ⟨x, _, rfl⟩ := List.mem_map.1 he; rfl) (fun e he => by obtain ⟨x, _, rfl⟩ := List.mem_map.1 he; rfl))
  have B0 := hide ((unhide BH).trans (hb.mono (unhide BH).size))
  have HLn := hide hl
  clear hO hb CS hvn hl
  go_wp2_with fail
  go_loopw [9] (fun i wr => ∃ (k : Nat) (done : List SeH), i = .int .i64 (k : Int) ∧ k ≤ vn ∧ Hid (done.length = k ∧ done.map (·.X) = (hs.take k).map (·.X)) ∧ Hid (NOwn wr w.heap.size 212 3 (.slice va vn vc) vn (done.map seEl ++ (hs.drop k).map flE)) ∧ Hid (Below w.heap.size w wr)) (fun i _ => vn - (intOf i).toNat)
  case atStart => exact ⟨0, [], rfl, Nat.zero_le _, hide ⟨rfl, rfl⟩, N0, B0⟩
  case round =>
    clear N0 B0
    obtain ⟨k, done, rfl, hk, hD, hN, hB⟩ := hrel
    by_cases hlt : k < vn
    case neg =>
      obtain rfl : k = vn := by omega
      have RES := hide (show SeOwn wr w.heap.size (.slice va k vc) done ∧ done.map (·.X) = hs.map (·.X) by
        have h1 := unhide hN
        have h2 := (unhide hD).2
        rw [List.take_of_length_le (by rw [unhide HLn]; exact Nat.le_refl _)] at h2
        rw [List.drop_eq_nil_of_le (by rw [unhide HLn]; exact Nat.le_refl _), List.map_nil, List.append_nil] at h1
        have h3 := (unhide hD).1
        refine ⟨?_, h2⟩
        show NOwn _ _ _ _ _ done.length _
        rw [h3]
        exact h1)
      go_wp2_with fail
      go_ret
      exact ⟨⟨va, k, vc⟩, rfl, done, (unhide RES).1, (unhide RES).2, unhide hB⟩
    have hk2 : k < hs.length := by rw [unhide HLn]; exact hlt
    have hkn : (k : Int) < (vn : Int) := by omega
    have hne : Value.slice va vn vc ≠ .slice none 0 0 := fun e => by injection e with _ e _; omega
    obtain ⟨g, c, e, hgB, hg, hc⟩ := owns_form (unhide hN).row hne
    injection e with e1 _ e3
    subst e1 e3
    have d2 := (unhide hN).cell (j := 2) (os_at (unhide hD).1 hk2) rfl
    have RW := SeIn.row ((unhide HI).below (unhide hB)) hk2
    have CC := unhide CW hs[k] (List.getElem_mem hk2)
    have hwn := unhide WN hs[k] (List.getElem_mem hk2)
    have bA : Below wr.heap.size wr (wr.alloc (.cells #[.slice hs[k].s0.a hs[k].s0.n hs[k].s0.c] 25)) := (Below.refl _ _).alloc (Nat.le_refl _) _
    have cA : (wr.alloc (.cells #[.slice hs[k].s0.a hs[k].s0.n hs[k].s0.c] 25)).cell? ⟨wr.heap.size, 0, none⟩ = some (.slice hs[k].s0.a hs[k].s0.n hs[k].s0.c) := (heap_at (heap_alloc_new _ _) 0).1
    have CV := hide (concatV1 wr.heap.size hs[k].s0.a hs[k].s0.n hs[k].s0.c hs[k].X.ws (wr.alloc (.cells #[.slice hs[k].s0.a hs[k].s0.n hs[k].s0.c] 25)) cA (RW.below bA) CC.2 (by omega))
    have STP := hide (fun (w5 : World) (q : Sl) (hb : Below wr.heap.size wr w5) (ho : VOwns w5 wr.heap.size (.slice q.a q.n q.c) hs[k].X.ws) => os_step (unhide hN) (unhide hD).1 hk2 hb q ho (Nat.le_refl _) (unhide hB).size)
    have TK := hide (show ∀ q : Sl, (done ++ [(⟨hs[k].X, q⟩ : SeH)]).length = k + 1 ∧ (done ++ [(⟨hs[k].X, q⟩ : SeH)]).map (·.X) = (hs.take (k + 1)).map (·.X) from fun q => ⟨by rw [List.length_append, (unhide hD).1]; rfl, by rw [takeG_snoc hs k hk2, List.map_append, List.map_append, (unhide hD).2]; rfl⟩)
    have BA := hide bA
    have d2' : wr.cell? ⟨g, k * 3 + 2, none⟩ = some (.slice hs[k].s0.a hs[k].s0.n hs[k].s0.c) := d2
    clear bA cA RW CC hwn d2 hN hD
    generalize hs[k] = x at *
    obtain ⟨X, ⟨wa, wn, wc⟩⟩ := x
    simp only at CV STP TK d2' BA
    go_wp2_with fail
    refine (unhide CV).mono ?_
    rintro e w5 ⟨v5, rfl, o5, b5⟩
    obtain ⟨⟨qa, qn, qc⟩, rfl, -⟩ := v_slice o5
    have b6 := (unhide BA).trans (b5.mono (unhide BA).size)
    obtain ⟨N5, W5, d5, f5⟩ := unhide STP w5 ⟨qa, qn, qc⟩ b6 (gd_base o5 (unhide BA).size)
    have bw := (unhide hB).trans (b6.mono (unhide hB).size)
    have NX := hide N5
    have BX := hide (bw.trans (WrB.below W5 (fun i e => by rw [e]; exact hgB) bw.size))
    have DX := hide (unhide TK ⟨qa, qn, qc⟩)
    simp only at d5 NX BX
    clear N5 W5 bw b6 o5 b5 CV STP TK BA d2'
    simp only
    go_wp2_with fail
    go_roundw
    case rel => exact ⟨k + 1, _, by go_num, by omega, DX, NX, BX⟩
    case measure => simp [intOf]; omega
end Go.Proofs.YtcflepnckjappaaGreat

namespace Go.Proofs.YtcflepnckjappaaGreat
open Go.RowKit

/-- append(a row of the call's own, a list...), nil or not. -/
theorem run_appF {w : World} {B : Nat} {v : Value} {a : Option Addr} {n c : Nat} {xs ds : List FenD} (ty : TypeId) (hO : FOwns w B v xs) (hR : FRow w a n ds) (hx : xs.length ≤ 2000000) (hn : n ≤ 2000000) (hc : a = none → c = 0) (hB : B ≤ w.heap.size) :
    ∃ v' w', (Builtin.append_ #[26, 26] ty #[v, .slice a n c]).run Tryz.prog w = .ok v' w' ∧ FOwns w' B v' (xs ++ ds) ∧ w.grownBy w' v.ownBlock ∧ (v ≠ .slice none 0 0 → v' ≠ .slice none 0 0) := by
  obtain ⟨i0, hi0, hz0, hz1, hz2⟩ := info_parts Tryz.infoFence
  cases a with
  | none =>
    obtain rfl := hc rfl
    obtain ⟨rfl, rfl⟩ := frow_none hR
    exact ⟨v, w, run_append_owned_none (P := Tryz.prog) w B 26 ty 232 i0 3 Tryz.underlying26 hi0 _ _ _ hO, by rw [List.append_nil]; exact hO, ⟨rfl, rfl, rfl, Nat.le_refl _, fun _ _ _ => rfl⟩, fun h => h⟩
  | some ad =>
    obtain ⟨v', w', hr, ho, hg, hv⟩ := run_append_own (P := Tryz.prog) w B 26 ty 232 i0 (.agg #[.string ByteArray.empty, .string ByteArray.empty, .int .i64 0]) 3 40 Tryz.underlying26 hi0 hz0 hz1 hz2 rfl (by decide) _ _ _ hO ad n c (fcs ds) (by rw [fcs_len, hR.1]) (frow_src hR) (fcs_one _) (by unfold maxLen; omega) (by omega) hB
    refine ⟨v', w', hr, ?_, hg, fun h h' => h (hv.1 h').1⟩
    unfold FOwns
    rw [fcs_append, List.length_append, hR.1]
    exact ho
set_option maxRecDepth 100000 in
set_option maxHeartbeats 4000000 in
theorem growF (n : Nat) (w : World) (hn : n ≤ 2000000) :
    Calls Tryz.prog 223 #[.slice none 0 0, .int .i64 (n : Int)] w fun e w' => ∃ v, e = .returned v ∧ FOwns w' w.heap.size v [] ∧ (0 < n → v ≠ .slice none 0 0) ∧ Below w.heap.size w w' := by
  obtain ⟨i0, hi0, hz0, hz1, hz2⟩ := info_parts Tryz.infoFence
  by_cases h0 : 0 < n
  · have hr := Lib.run_append_nil_zeros (P := Tryz.prog) w 26 3 26 232 i0 (.agg #[.string ByteArray.empty, .string ByteArray.empty, .int .i64 0]) .i64 .i64 Tryz.underlying26 Tryz.underlying3 hi0 hz0 n h0 (by omega) (by omega) (by rw [hz2]; omega)
    have HO := hide (grow_owns (w := w) (B := w.heap.size) (e := 232) (size := 3) (n := n) (z := .agg #[.string ByteArray.empty, .string ByteArray.empty, .int .i64 0]) rfl (by unfold maxLen; omega) (Nat.le_refl _))
    have HB := hide (show Below w.heap.size w _ from ((Below.refl w.heap.size w).drew.alloc (Nat.le_refl _) (.cells (Builtin.zeroCells (Value.cells (.agg #[.string ByteArray.empty, .string ByteArray.empty, .int .i64 0])) n ++ Builtin.zeroCells (Value.cells (.agg #[.string ByteArray.empty, .string ByteArray.empty, .int .i64 0])) (grownCap w n 0 232 - n)) 232)))
    obtain ⟨W, hW⟩ : ∃ W, W = w.drew.alloc (.cells (Builtin.zeroCells (Value.cells (.agg #[.string ByteArray.empty, .string ByteArray.empty, .int .i64 0])) n ++ Builtin.zeroCells (Value.cells (.agg #[.string ByteArray.empty, .string ByteArray.empty, .int .i64 0])) (grownCap w n 0 232 - n)) 232) := ⟨_, rfl⟩
    rw [← hW] at hr HO HB
    generalize grownCap w n 0 232 = cap at *
    clear hW
    go_enter Tryz.func223, Tryz.ntmps223
    go_wp2_with (at_builtin; refine Lib.wpList_append_run _ rfl _ _ 26 3 rfl _ _ rfl rfl _ W hr ?_)
    go_ret
    exact ⟨.slice (some ⟨w.heap.size, 0, none⟩) 0 cap, rfl, unhide HO, fun _ h => (by cases h), unhide HB⟩
  · obtain rfl : n = 0 := by omega
    go_enter Tryz.func223, Tryz.ntmps223
    go_wp2_with fail
    go_ret
    exact ⟨.slice none 0 0, rfl, World.ownsRow_nil _ _ _ _, fun h => absurd h (by omega), Below.refl _ _⟩
set_option maxRecDepth 100000 in
set_option maxHeartbeats 4000000 in
theorem concatF1 (ob : Nat) (a : Option Addr) (n c : Nat) (es : List FenD) (w : World) (hc : w.cell? ⟨ob, 0, none⟩ = some (.slice a n c)) (hR : FRow w a n es) (hcn : a = none → c = 0) (hn : n ≤ 1100000) :
    Calls Tryz.prog 145 #[.slice (some ⟨ob, 0, none⟩) 1 1] w fun e w' => ∃ v, e = .returned v ∧ FOwns w' w.heap.size v es ∧ Below w.heap.size w w' := by
  have R := hide hR
  have hob := cell_lt hc
  clear hR
  go_enter Tryz.func145, Tryz.ntmps145
  go_wp2_with fail
  refine wp_loop_rounds 2 ?_
  rw [rounds_succ]
  go_wp2_with fail
  rw [rounds_succ]
  go_wp2_with fail
  refine (growF n w (by omega)).mono ?_
  rintro e w1 ⟨v1, rfl, hO, _, hb⟩
  obtain ⟨v2, w2, hr, hO2, hg2, _⟩ := run_appF (c := c) 26 hO ((unhide R).below hb) (by simp) (by omega) hcn hb.size
  have hc1 := (hb.cell (p := ⟨ob, 0, none⟩) hob).trans hc
  have B2 := hide (hb.trans ((Below.refl w.heap.size w1).grown hg2 hb.size (fun k hk => (hO.lt k hk).1)))
  have O2 := hide (show FOwns w2 w.heap.size v2 es from hO2)
  clear hO hO2 hg2 hb R
  go_wp2_with fail
  refine wp_loop_rounds 2 ?_
  rw [rounds_succ]
  go_wp2_with (at_builtin; refine wpAppE rfl _ _ 26 rfl _ _ v2 w2 rfl rfl hr ?_)
  rw [rounds_succ]
  go_wp2_with fail
  go_ret
  exact ⟨v2, rfl, unhide O2, unhide B2⟩
end Go.Proofs.YtcflepnckjappaaGreat

namespace Go.Proofs.YtcflepnckjappaaGreat
open Go.RowKit

/-- A ledger in memory of its own. -/
structure LdAt (w : World) (B lb m N : Nat) (h : ByteArray → Value) (next : Int) (f s : Sl) (hs : List SeH) (ds : List VerD) (fs : List FenD) : Prop where
  box : w.heap[lb]? = some (.cells #[.int .i64 next, .map (some m), .slice f.a f.n f.c, .slice s.a s.n s.c] 223 (0, 0))
  his : HisAt w m N (m + 1) h ds
  fo : FOwns w B (.slice f.a f.n f.c) fs
  so : SeOwn w B (.slice s.a s.n s.c) hs
  far : ∀ k g, (h k).ownBlock = some g → ¬ NBl (.slice s.a s.n s.c) (hs.map seEl) g
  mge : B ≤ m
  lge : B ≤ lb
/-- A ledger of Versions, given back. -/
def LoRes (d : VsD) (w : World) (e : Ending) (w' : World) : Prop := ∃ (lb m N : Nat) (h : ByteArray → Value) (f s : Sl) (hs : List SeH), e = .returned (.pointer (some ⟨lb, 0, none⟩)) ∧ LdAt w' w.heap.size lb m N h d.next f s hs d.list d.fen ∧ N ≤ 4096 ∧ hs.map (·.X) = d.ses ∧ Below w.heap.size w w'
set_option maxRecDepth 100000 in
set_option maxHeartbeats 8000000 in
theorem ledgerOf_any (d : VsD) (l f s : Sl) (hs : List SeH) (w : World) (hI : VzIn w l f s hs d) (hcs : s.a = none → s.c = 0) (hl : VsFew l f s (hs.map seR)) (hln : l.n ≤ 4096) (hk : ∀ i (hi : i < d.list.length), d.list[i].k.size ≤ maxLen) :
    Calls Tryz.prog 123 #[.agg (vzC d.next l f s)] w (LoRes d w) := by
  obtain ⟨W, hW⟩ : ∃ W, W = w.alloc (.cells (vzC d.next l f s) 29) := ⟨_, rfl⟩
  have b1 : Below w.heap.size w W := by subst hW; exact (Below.refl _ _).alloc (Nat.le_refl _) _
  have kv : W.heap[w.heap.size]? = some (.cells (vzC d.next l f s) 29 (0, 0)) := by subst hW; exact heap_alloc_new _ _
  have hz0 : w.heap.size < W.heap.size := blk_lt kv
  have IW := hI.below b1
  have SSD := hide hI.ss
  have SH := hide (fun (u : World) (hb : Below W.heap.size W u) => historyOf_any l.a l.n l.c d.list u hln (IW.vr.below hb) hk)
  have SF := hide (fun (ob : Nat) (u : World) (hb : Below W.heap.size W u) (hc : u.cell? ⟨ob, 0, none⟩ = some (.slice f.a f.n f.c)) => concatF1 ob f.a f.n f.c d.fen u hc (IW.fr.below hb) IW.cf.2 (by have := hl.f; omega))
  have SS := hide (fun (u : World) (hb : Below W.heap.size W u) => ownSessions_any s hs u (IW.below hb).sr hcs IW.cw (by have := hl.s; omega) (fun h hh => by
    obtain ⟨k, hk, rfl⟩ := List.getElem_of_mem hh
    have h1 := hl.w k (by simpa using hk)
    rw [List.getElem_map] at h1
    exact h1))
  have BH := hide b1
  have HLN := hide hln
  obtain ⟨la, ln, lc⟩ := l
  obtain ⟨fa, fn, fc⟩ := f
  obtain ⟨sa, sn, sc⟩ := s
  unfold vzC at *
  simp only at hW kv SH SF SS HLN ⊢
  have SK := hide (show ∀ u, Below W.heap.size W u → (u.cell? ⟨w.heap.size, 0, none⟩ = some (.int .i64 d.next) ∧ u.cell? ⟨w.heap.size, 1, none⟩ = some (.slice la ln lc) ∧ u.cell? ⟨w.heap.size, 2, none⟩ = some (.slice fa fn fc) ∧ u.cell? ⟨w.heap.size, 3, none⟩ = some (.slice sa sn sc)) from fun u hu => ⟨(hu.cell (p := ⟨w.heap.size, 0, none⟩) hz0).trans (heap_at kv 0).1, (hu.cell (p := ⟨w.heap.size, 1, none⟩) hz0).trans (heap_at kv 1).1, (hu.cell (p := ⟨w.heap.size, 2, none⟩) hz0).trans (heap_at kv 2).1, (hu.cell (p := ⟨w.heap.size, 3, none⟩) hz0).trans (heap_at kv 3).1⟩)
  have B0 := hide (Below.refl W.heap.size W).drew
  clear hI hl hk b1 kv IW hcs hln
  go_enter Tryz.func123, Tryz.ntmps123
  go_upto_region 1 with fail
  rw [← hW]
  clear hW
  refine wp_region_held_drew (S := (fun u => (u.cell? ⟨w.heap.size, 0, none⟩ = some (.int .i64 d.next) ∧ u.cell? ⟨w.heap.size, 1, none⟩ = some (.slice la ln lc) ∧ u.cell? ⟨w.heap.size, 2, none⟩ = some (.slice fa fn fc) ∧ u.cell? ⟨w.heap.size, 3, none⟩ = some (.slice sa sn sc)))) (by kernel_rfl) (unhide SK _ (unhide B0)) (fun hHeld => ?_)
  generalize W.drew = u0 at *
  refine anyH_take 0 3 (v := ?v1) rfl rfl (by kernel_rfl) (by kernel_rfl) (by kernel_rfl) (fun _ _ _ h => h) (by rfl) ?h1 hHeld ?r1
  case h1 => (intro w hSw; (try dsimp only at hSw); go_simp; try (with_reducible rfl))
  simp only [Act.put, List.setIfInBounds_toArray, List.set_cons_zero, List.set_cons_succ]
  refine anyH_take 1 4 (v := ?v2) rfl rfl (by kernel_rfl) (by kernel_rfl) (by kernel_rfl) (fun _ _ _ h => h) (by rfl) ?h2 hHeld ?r2
  case h2 => (intro w hSw; (try dsimp only at hSw); go_simp; try (with_reducible rfl))
  simp only [Act.put, List.setIfInBounds_toArray, List.set_cons_zero, List.set_cons_succ]
  refine anyH_take 2 5 (v := ?v3) rfl rfl (by kernel_rfl) (by kernel_rfl) (by kernel_rfl) (fun _ _ _ h => h) (by rfl) ?h3 hHeld ?r3
  case h3 => (intro w hSw; (try dsimp only at hSw); go_simp; try (with_reducible rfl))
  simp only [Act.put, List.setIfInBounds_toArray, List.set_cons_zero, List.set_cons_succ]
  refine anyH_take 3 6 (v := ?v4) rfl rfl (by kernel_rfl) (by kernel_rfl) (by kernel_rfl) (fun _ _ _ h => h) (by rfl) ?h4 hHeld ?r4
  case h4 => (intro w hSw; (try dsimp only at hSw); go_simp; try (with_reducible rfl))
  simp only [Act.put, List.setIfInBounds_toArray, List.set_cons_zero, List.set_cons_succ]
  refine anyH_take 5 8 (v := ?v5) rfl rfl (by kernel_rfl) (by kernel_rfl) (by kernel_rfl) (fun _ _ _ h => h) (by rfl) ?h5 hHeld ?r5
  case h5 => (intro w hSw; (try dsimp only at hSw); go_simp; try (with_reducible rfl))
  simp only [Act.put, List.setIfInBounds_toArray, List.set_cons_zero, List.set_cons_succ]
  refine anyH_take 6 9 (v := ?v6) rfl rfl (by kernel_rfl) (by kernel_rfl) (by kernel_rfl) (fun _ _ _ h => h) (by rfl) ?h6 hHeld ?r6
  case h6 => (intro w hSw; (try dsimp only at hSw); go_simp; try (with_reducible rfl))
  simp only [Act.put, List.setIfInBounds_toArray, List.set_cons_zero, List.set_cons_succ]
  refine anyH_take 9 12 (v := ?v7) rfl rfl (by kernel_rfl) (by kernel_rfl) (by kernel_rfl) (fun _ _ _ h => h) (by rfl) ?h7 hHeld ?r7
  case h7 => (intro w hSw; (try dsimp only at hSw); go_simp; try (with_reducible rfl))
  simp only [Act.put, List.setIfInBounds_toArray, List.set_cons_zero, List.set_cons_succ]
  refine anyH_take 10 13 (v := ?v8) rfl rfl (by kernel_rfl) (by kernel_rfl) (by kernel_rfl) (fun _ _ _ h => h) (by rfl) ?h8 hHeld ?r8
  case h8 => (intro w hSw; (try dsimp only at hSw); go_simp; try (with_reducible rfl))
  simp only [Act.put, List.setIfInBounds_toArray, List.set_cons_zero, List.set_cons_succ]
  refine wpAnyH_ready (rs := [4, 7]) (by kernel_rfl) (by simp) ?_
  refine AllReadyH.cons rfl (fun K hK => ?_) (AllReadyH.cons rfl (fun K hK => ?_) AllReadyH.nil)
  · go_simp
    refine (unhide SH _ (unhide B0)).mono ?_
    rintro e u4 ⟨h, rfl, hH, hb4⟩
    have HH4 := hide hH
    have M4 := (unhide B0).size
    have B4 := hide ((unhide B0).trans (hb4.mono (unhide B0).size))
    clear hH hb4
    generalize u0.heap.size = m4 at *
    refine hK.out _ _ (unhide SK _ (unhide B4)) (fun hHeld => ?_)
    clear hK K
    refine wpAnyH_ready (rs := [7]) (by kernel_rfl) (by simp) ?_
    refine AllReadyH.cons rfl (fun K hK => ?_) AllReadyH.nil
    have bA7 : Below u4.heap.size u4 (u4.alloc (.cells #[.slice fa fn fc] 26)) := (Below.refl _ _).alloc (Nat.le_refl _) _
    have C7 := hide (show (u4.alloc (.cells #[.slice fa fn fc] 26)).cell? ⟨u4.heap.size, 0, none⟩ = some (.slice fa fn fc) from (heap_at (heap_alloc_new _ _) 0).1)
    have B4_7 := hide ((unhide B4).trans (bA7.mono (unhide B4).size))
    have HH7 := hide ((unhide HH4).below bA7)
    go_simp
    generalize u4.alloc (.cells #[.slice fa fn fc] 26) = u4_7 at *
    generalize hq7 : u4.heap.size = o7 at *
    clear bA7
    refine hK.out _ _ (unhide SK _ (unhide B4_7)) (fun hHeld => ?_)
    clear hK K
    refine wpAnyH_ready (rs := [8]) (by kernel_rfl) (by simp) ?_
    refine AllReadyH.cons rfl (fun K hK => ?_) AllReadyH.nil
    go_simp
    refine (unhide SF _ _ (unhide B4_7) (unhide C7)).mono ?_
    rintro e u4_7_8 ⟨v8, rfl, oF, hb8⟩
    obtain ⟨⟨fa8, fn8, fc8⟩, rfl, -⟩ := v_slice oF
    have OF := hide (gd_base oF (unhide B4_7).size)
    have HH8 := hide ((unhide HH7).below hb8)
    have B4_7_8 := hide ((unhide B4_7).trans (hb8.mono (unhide B4_7).size))
    clear oF hb8
    refine hK.out _ _ (unhide SK _ (unhide B4_7_8)) (fun hHeld => ?_)
    clear hK K
    refine wpAnyH_ready (rs := [11]) (by kernel_rfl) (by simp) ?_
    refine AllReadyH.cons rfl (fun K hK => ?_) AllReadyH.nil
    go_simp
    refine (unhide SS _ (unhide B4_7_8)).mono ?_
    rintro e u4_7_8_11 ⟨⟨sa1, sn1, sc1⟩, hs1, rfl, oS, hX, hb11⟩
    have FAR := hide (show ∀ k g, (h k).ownBlock = some g → ¬ NBl (.slice sa1 sn1 sc1) (hs1.map seEl) g from fun k g hg hn => Nat.lt_irrefl _ (Nat.lt_of_lt_of_le ((unhide HH8).own k |>.lt g hg).2 (oS.lt g hn).1))
    have OS := hide (oS.down (unhide B4_7_8).size)
    have OF1 := hide (rb_ownsRow_below (unhide OF) hb11)
    have HH11 := hide ((unhide HH8).below hb11)
    have HX := hide (hX.trans (unhide SSD))
    have B4_7_8_11 := hide ((unhide B4_7_8).trans (hb11.mono (unhide B4_7_8).size))
    clear oS hX hb11
    refine hK.out _ _ (unhide SK _ (unhide B4_7_8_11)) (fun hHeld => ?_)
    clear hK K
    refine anyH_take 12 15 (v := ?v9) rfl rfl (by kernel_rfl) (by kernel_rfl) (by kernel_rfl) (fun _ _ _ h => h) (by rfl) ?h9 hHeld ?r9
    case h9 => (intro w hSw; (try dsimp only at hSw); go_simp; try (with_reducible rfl))
    simp only [Act.put, List.setIfInBounds_toArray, List.set_cons_zero, List.set_cons_succ]
    refine wpAnyH_ready (rs := [13]) (by kernel_rfl) (by simp) ?_
    refine AllReadyH.cons rfl (fun K hK => ?_) AllReadyH.nil
    have bL : Below u4_7_8_11.heap.size u4_7_8_11 (u4_7_8_11.alloc (.cells #[.int .i64 d.next, .map (some m4), .slice fa8 fn8 fc8, .slice sa1 sn1 sc1] 223)) := (Below.refl _ _).alloc (Nat.le_refl _) _
    have B4_7_8_11_13 := hide ((unhide B4_7_8_11).trans (bL.mono (unhide B4_7_8_11).size))
    have LD := hide (show LdAt (u4_7_8_11.alloc (.cells #[.int .i64 d.next, .map (some m4), .slice fa8 fn8 fc8, .slice sa1 sn1 sc1] 223)) w.heap.size u4_7_8_11.heap.size m4 _ h d.next ⟨fa8, fn8, fc8⟩ ⟨sa1, sn1, sc1⟩ hs1 d.list d.fen from ⟨heap_alloc_new _ _, (unhide HH11).below bL, gd_base (rb_ownsRow_below (unhide OF1) bL) (Nat.le_of_lt hz0), ((unhide OS).below bL).down (Nat.le_of_lt hz0), unhide FAR, Nat.le_trans (Nat.le_of_lt hz0) M4, Nat.le_trans (Nat.le_of_lt hz0) (unhide B4_7_8_11).size⟩)
    have BE := hide ((unhide BH).trans ((unhide B4_7_8_11_13).mono (Nat.le_of_lt hz0)))
    clear bL
    go_simp
    refine hK.out _ _ (unhide SK _ (unhide B4_7_8_11_13)) (fun hHeld => ?_)
    clear hK K
    refine anyH_take 14 2 (v := ?v10) rfl rfl (by kernel_rfl) (by kernel_rfl) (by kernel_rfl) (fun _ _ _ h => h) (by rfl) ?h10 hHeld ?r10
    case h10 => (intro w hSw; (try dsimp only at hSw); go_simp; try (with_reducible rfl))
    simp only [Act.put, List.setIfInBounds_toArray, List.set_cons_zero, List.set_cons_succ]
    refine wpAnyH_done (by kernel_rfl) ?_ _
    clear hHeld SK SH SF SS
    go_wp2_with fail
    go_ret
    exact ⟨_, _, _, _, _, _, _, rfl, unhide LD, unhide HLN, unhide HX, unhide BE⟩
  · have bA7 : Below u0.heap.size u0 (u0.alloc (.cells #[.slice fa fn fc] 26)) := (Below.refl _ _).alloc (Nat.le_refl _) _
    have C7 := hide (show (u0.alloc (.cells #[.slice fa fn fc] 26)).cell? ⟨u0.heap.size, 0, none⟩ = some (.slice fa fn fc) from (heap_at (heap_alloc_new _ _) 0).1)
    have B7 := hide ((unhide B0).trans (bA7.mono (unhide B0).size))
    go_simp
    generalize u0.alloc (.cells #[.slice fa fn fc] 26) = u7 at *
    generalize u0.heap.size = o7 at *
    clear bA7
    refine hK.out _ _ (unhide SK _ (unhide B7)) (fun hHeld => ?_)
    clear hK K
    refine wpAnyH_ready (rs := [4]) (by kernel_rfl) (by simp) ?_
    refine AllReadyH.cons rfl (fun K hK => ?_) AllReadyH.nil
    go_simp
    refine (unhide SH _ (unhide B7)).mono ?_
    rintro e u7_4 ⟨h, rfl, hH, hb4⟩
    have HH4 := hide hH
    have M4 := (unhide B7).size
    have B7_4 := hide ((unhide B7).trans (hb4.mono (unhide B7).size))
    have C8 := hide ((hb4.cell (p := ⟨o7, 0, none⟩) (cell_lt (unhide C7))).trans (unhide C7))
    clear hH hb4
    generalize u7.heap.size = m4 at *
    refine hK.out _ _ (unhide SK _ (unhide B7_4)) (fun hHeld => ?_)
    clear hK K
    refine wpAnyH_ready (rs := [8]) (by kernel_rfl) (by simp) ?_
    refine AllReadyH.cons rfl (fun K hK => ?_) AllReadyH.nil
    go_simp
    refine (unhide SF _ _ (unhide B7_4) (unhide C8)).mono ?_
    rintro e u7_4_8 ⟨v8, rfl, oF, hb8⟩
    obtain ⟨⟨fa8, fn8, fc8⟩, rfl, -⟩ := v_slice oF
    have OF := hide (gd_base oF (unhide B7_4).size)
    have HH8 := hide ((unhide HH4).below hb8)
    have B7_4_8 := hide ((unhide B7_4).trans (hb8.mono (unhide B7_4).size))
    clear oF hb8
    refine hK.out _ _ (unhide SK _ (unhide B7_4_8)) (fun hHeld => ?_)
    clear hK K
    refine wpAnyH_ready (rs := [11]) (by kernel_rfl) (by simp) ?_
    refine AllReadyH.cons rfl (fun K hK => ?_) AllReadyH.nil
    go_simp
    refine (unhide SS _ (unhide B7_4_8)).mono ?_
    rintro e u7_4_8_11 ⟨⟨sa1, sn1, sc1⟩, hs1, rfl, oS, hX, hb11⟩
    have FAR := hide (show ∀ k g, (h k).ownBlock = some g → ¬ NBl (.slice sa1 sn1 sc1) (hs1.map seEl) g from fun k g hg hn => Nat.lt_irrefl _ (Nat.lt_of_lt_of_le ((unhide HH8).own k |>.lt g hg).2 (oS.lt g hn).1))
    have OS := hide (oS.down (unhide B7_4_8).size)
    have OF1 := hide (rb_ownsRow_below (unhide OF) hb11)
    have HH11 := hide ((unhide HH8).below hb11)
    have HX := hide (hX.trans (unhide SSD))
    have B7_4_8_11 := hide ((unhide B7_4_8).trans (hb11.mono (unhide B7_4_8).size))
    clear oS hX hb11
    refine hK.out _ _ (unhide SK _ (unhide B7_4_8_11)) (fun hHeld => ?_)
    clear hK K
    refine anyH_take 12 15 (v := ?v11) rfl rfl (by kernel_rfl) (by kernel_rfl) (by kernel_rfl) (fun _ _ _ h => h) (by rfl) ?h11 hHeld ?r11
    case h11 => (intro w hSw; (try dsimp only at hSw); go_simp; try (with_reducible rfl))
    simp only [Act.put, List.setIfInBounds_toArray, List.set_cons_zero, List.set_cons_succ]
    refine wpAnyH_ready (rs := [13]) (by kernel_rfl) (by simp) ?_
    refine AllReadyH.cons rfl (fun K hK => ?_) AllReadyH.nil
    have bL : Below u7_4_8_11.heap.size u7_4_8_11 (u7_4_8_11.alloc (.cells #[.int .i64 d.next, .map (some m4), .slice fa8 fn8 fc8, .slice sa1 sn1 sc1] 223)) := (Below.refl _ _).alloc (Nat.le_refl _) _
    have B7_4_8_11_13 := hide ((unhide B7_4_8_11).trans (bL.mono (unhide B7_4_8_11).size))
    have LD := hide (show LdAt (u7_4_8_11.alloc (.cells #[.int .i64 d.next, .map (some m4), .slice fa8 fn8 fc8, .slice sa1 sn1 sc1] 223)) w.heap.size u7_4_8_11.heap.size m4 _ h d.next ⟨fa8, fn8, fc8⟩ ⟨sa1, sn1, sc1⟩ hs1 d.list d.fen from ⟨heap_alloc_new _ _, (unhide HH11).below bL, gd_base (rb_ownsRow_below (unhide OF1) bL) (Nat.le_of_lt hz0), ((unhide OS).below bL).down (Nat.le_of_lt hz0), unhide FAR, Nat.le_trans (Nat.le_of_lt hz0) M4, Nat.le_trans (Nat.le_of_lt hz0) (unhide B7_4_8_11).size⟩)
    have BE := hide ((unhide BH).trans ((unhide B7_4_8_11_13).mono (Nat.le_of_lt hz0)))
    clear bL
    go_simp
    refine hK.out _ _ (unhide SK _ (unhide B7_4_8_11_13)) (fun hHeld => ?_)
    clear hK K
    refine anyH_take 14 2 (v := ?v12) rfl rfl (by kernel_rfl) (by kernel_rfl) (by kernel_rfl) (fun _ _ _ h => h) (by rfl) ?h12 hHeld ?r12
    case h12 => (intro w hSw; (try dsimp only at hSw); go_simp; try (with_reducible rfl))
    simp only [Act.put, List.setIfInBounds_toArray, List.set_cons_zero, List.set_cons_succ]
    refine wpAnyH_done (by kernel_rfl) ?_ _
    clear hHeld SK SH SF SS
    go_wp2_with fail
    go_ret
    exact ⟨_, _, _, _, _, _, _, rfl, unhide LD, unhide HLN, unhide HX, unhide BE⟩
end Go.Proofs.YtcflepnckjappaaGreat

namespace Go.Proofs.YtcflepnckjappaaGreat
open Go.RowKit

/-- The block may be a ledger's. -/
def LK (m : Nat) (w : World) (i : Nat) : Prop := (i = m ∧ ∃ es c, w.heap[i]? = some (.map es c)) ∨ ∃ cs t fr, w.heap[i]? = some (.cells cs t fr) ∧ (t = 51 ∨ t = 232 ∨ t = 212 ∨ t = 223)
/-- Of what was there only blocks of a ledger from B on may have changed. -/
def LgW (B m : Nat) (w w' : World) : Prop := WrB (fun i => B ≤ i ∧ LK m w i) w w'
theorem LK.same {w w' : World} {m i : Nat} (h : w'.heap[i]? = w.heap[i]?) : LK m w' i ↔ LK m w i := by unfold LK; rw [h]
theorem LgW.trans {B m : Nat} {w w1 w2 : World} (h : LgW B m w w1) (k : LgW B m w1 w2) : LgW B m w w2 :=
  ⟨k.os.trans h.os, k.tape.trans h.tape, k.output.trans h.output, Nat.le_trans h.size k.size, fun i hi hp => by
    have h1 := h.block i hi hp
    refine (k.block i (Nat.lt_of_lt_of_le hi h.size) (fun hq => hp ⟨hq.1, (LK.same h1).1 hq.2⟩)).trans h1⟩
theorem LgW.of_below {B m : Nat} {w w' : World} (h : Below w.heap.size w w') : LgW B m w w' := WrB.of_below h
theorem LgW.refl (B : Nat) {m : Nat} (w : World) : LgW B m w w := WrB.same _ _
theorem LgW.below {B m : Nat} {w w' : World} (h : LgW B m w w') (hB : B ≤ w.heap.size) : Below B w w' := ⟨h.os, h.tape, h.output, h.size, fun i hi => h.block i (by omega) (fun hp => by omega)⟩
theorem LgW.of_wr {B m : Nat} {w w' : World} {P : Nat → Prop} (h : WrB P w w') (hp : ∀ i, P i → B ≤ i ∧ LK m w i) : LgW B m w w' := h.weak hp
theorem lk_kind {m : Nat} {w : World} {i : Nat} {cs : Array Value} {t : TypeId} (h : w.heap[i]? = some (.cells cs t (0, 0))) (ht : t = 51 ∨ t = 232 ∨ t = 212 ∨ t = 223) : LK m w i := .inr ⟨cs, t, _, h, ht⟩
/-- A box of another kind stays. -/
theorem LgW.box {B m : Nat} {w w' : World} (h : LgW B m w w') {b : Nat} {cs : Array Value} {t : TypeId} (hb : w.heap[b]? = some (.cells cs t (0, 0))) (ht : t ≠ 51 ∧ t ≠ 232 ∧ t ≠ 212 ∧ t ≠ 223) : w'.heap[b]? = some (.cells cs t (0, 0)) := by
  refine (h.block b (blk_lt hb) (fun hp => ?_)).trans hb
  rcases hp.2 with ⟨_, es, c, e⟩ | ⟨cs', t', fr, e, ht'⟩
  · rw [hb] at e; cases e
  · rw [hb] at e
    injection e with e
    injection e with _ e _
    subst e
    rcases ht' with e | e | e | e
    · exact ht.1 e
    · exact ht.2.1 e
    · exact ht.2.2.1 e
    · exact ht.2.2.2 e
/-- A row of another kind stays. -/
theorem LgW.row {B m C s n : Nat} {t : TypeId} {w w' : World} (h : LgW B m w w') {v : Value} {cs : List Value} (ho : w.ownsRow C t s v n cs) (ht : t ≠ 51 ∧ t ≠ 232 ∧ t ≠ 212 ∧ t ≠ 223) : w'.ownsRow C t s v n cs :=
  rr_owns_wr ho h (fun i hi hp => by
    obtain ⟨cur, hc⟩ := own_kind ho hi
    rcases hp.2 with ⟨_, es, c, e⟩ | ⟨cs', t', fr, e, ht'⟩
    · rw [hc] at e; cases e
    · rw [hc] at e
      injection e with e
      injection e with _ e _
      subst e
      rcases ht' with e | e | e | e
      · exact ht.1 e
      · exact ht.2.1 e
      · exact ht.2.2.1 e
      · exact ht.2.2.2 e)
/-- A ledger in memory of its own. -/
structure LgAt (w : World) (B lb m N : Nat) (h : ByteArray → Value) (f s : Sl) (hs : List SeH) (d : VsD) : Prop where
  box : w.heap[lb]? = some (.cells #[.int .i64 d.next, .map (some m), .slice f.a f.n f.c, .slice s.a s.n s.c] 223 (0, 0))
  his : HisAt w m N (m + 1) h d.list
  vz : VzOwn w B ⟨none, 0, 0⟩ f s hs ⟨d.next, [], d.fen, d.ses⟩
  far : ∀ k g, (h k).ownBlock = some g → ¬ NBl (.slice s.a s.n s.c) (hs.map seEl) g
  mge : B ≤ m
  lge : B ≤ lb
theorem LdAt.lg {w : World} {B lb m N : Nat} {h : ByteArray → Value} {f s : Sl} {hs : List SeH} {d : VsD} (q : LdAt w B lb m N h d.next f s hs d.list d.fen) (hx : hs.map (·.X) = d.ses) : LgAt w B lb m N h f s hs d :=
  ⟨q.box, q.his, ⟨World.ownsRow_nil _ _ _ _, q.fo, q.so, hx, fun i hi => by cases hi⟩, q.far, q.mge, q.lge⟩
theorem LgAt.below {w w' : World} {B lb m N : Nat} {h : ByteArray → Value} {f s : Sl} {hs : List SeH} {d : VsD} (q : LgAt w B lb m N h f s hs d) (hb : Below w.heap.size w w') : LgAt w' B lb m N h f s hs d :=
  ⟨(hb.block lb (blk_lt q.box)).trans q.box, q.his.below hb, q.vz.below hb, q.far, q.mge, q.lge⟩
/-- Blocks of other kinds may change. -/
theorem LgAt.wr {w w' : World} {B lb m N : Nat} {h : ByteArray → Value} {f s : Sl} {hs : List SeH} {d : VsD} (q : LgAt w B lb m N h f s hs d) {P : Nat → Prop} (hw : WrB P w w') (hp : ∀ i, P i → ¬ LK m w i) : LgAt w' B lb m N h f s hs d := by
  have kv : ∀ {C s n : Nat} {v : Value} {cs : List Value} {t : TypeId}, w.ownsRow C t s v n cs → (t = 51 ∨ t = 232 ∨ t = 212 ∨ t = 223) → ∀ i, v.ownBlock = some i → ¬ P i := fun ho ht i hi hP => by
    obtain ⟨cur, hc⟩ := own_kind ho hi
    exact hp i hP (lk_kind hc ht)
  refine ⟨(hw.block lb (blk_lt q.box) (fun hP => hp lb hP (lk_kind q.box (by simp)))).trans q.box, q.his.wr hw (fun hP => ?_) (fun i hi cur hc => hp i hi (lk_kind hc (by simp))), q.vz.apart hw (fun i hi => by cases hi) (kv q.vz.fo (by simp)) (fun i hi hP => ?_), q.far, q.mge, q.lge⟩
  · obtain ⟨D, ⟨es, clock, h1, _⟩, _⟩ := q.his.map
    exact hp m hP (.inl ⟨rfl, es, clock, h1⟩)
  · obtain ⟨cur, T, hc, hT⟩ := nbl_se q.vz.so hi
    exact hp i hP (lk_kind hc (by rcases hT with e | e <;> simp [e]))
theorem LgAt.len {w : World} {B lb m N : Nat} {h : ByteArray → Value} {f s : Sl} {hs : List SeH} {d : VsD} (q : LgAt w B lb m N h f s hs d) : s.n = hs.length ∧ hs.length = d.ses.length ∧ f.n = d.fen.length := ⟨owns_n q.vz.so.row, by rw [← q.vz.ss, List.length_map], owns_n q.vz.fo⟩
end Go.Proofs.YtcflepnckjappaaGreat

namespace Go.Proofs.YtcflepnckjappaaGreat
open Go.RowKit

theorem nbl_set {v : Value} {hs : List SeH} {i : Nat} {x : SeH} {k : Nat} (h : NBl v ((hs.set i x).map seEl) k) : NBl v (hs.map seEl) k ∨ (Value.slice x.s0.a x.s0.n x.s0.c).ownBlock = some k := by
  rcases h with h | ⟨j, a, y, hy, hk⟩
  · exact .inl (.inl h)
  · rw [List.map_set] at hy
    by_cases hi : i < (hs.map seEl).length
    · rw [sbAt_set hi] at hy
      by_cases e : j = i
      · rw [if_pos e] at hy
        have h2 : y.v = .slice x.s0.a x.s0.n x.s0.c := by
          match a, hy with
          | 0, hy => injection hy with hy; rw [← hy]
          | a + 1, hy => cases hy
        rw [h2] at hk
        exact .inr hk
      · rw [if_neg e] at hy
        exact .inl (.inr ⟨j, a, y, hy, hk⟩)
    · rw [List.set_eq_of_length_le (by omega)] at hy
      exact .inl (.inr ⟨j, a, y, hy, hk⟩)
/-- Three cells of a session. -/
abbrev st3 (w : World) (g i : Nat) (x : SeH) : World := ((w.setCell ⟨g, i * 3, none⟩ (.bool x.X.o)).setCell ⟨g, i * 3 + 1, none⟩ (.int .i64 x.X.t)).setCell ⟨g, i * 3 + 1 + 1, none⟩ (.slice x.s0.a x.s0.n x.s0.c)
/-- A session laid in another's place. -/
theorem LgAt.put {w : World} {B lb m N : Nat} {h : ByteArray → Value} {f s : Sl} {hs : List SeH} {d : VsD} (q : LgAt w B lb m N h f s hs d) {i : Nat} (hi : i < hs.length) (x : SeH) (ho : VOwns w B (.slice x.s0.a x.s0.n x.s0.c) x.X.ws) (hap : ∀ g, (Value.slice x.s0.a x.s0.n x.s0.c).ownBlock = some g → ¬ NBl (.slice s.a s.n s.c) (hs.map seEl) g) (hah : ∀ k g, (h k).ownBlock = some g → (Value.slice x.s0.a x.s0.n x.s0.c).ownBlock ≠ some g) :
    ∃ g, s.a = some ⟨g, 0, none⟩ ∧ (w.cell? ⟨g, i * 3, none⟩ = some (.bool hs[i].X.o) ∧ w.cell? ⟨g, i * 3 + 1, none⟩ = some (.int .i64 hs[i].X.t) ∧ w.cell? ⟨g, i * 3 + 2, none⟩ = some (.slice hs[i].s0.a hs[i].s0.n hs[i].s0.c)) ∧ (∀ j, w.frozen? ⟨g, j, none⟩ = false) ∧ LgAt (st3 w g i x) B lb m N h f s (hs.set i x) ⟨d.next, d.list, d.fen, d.ses.set i x.X⟩ ∧ LgW B m w (st3 w g i x) := by
  obtain ⟨g, hg, hB, hc, hf, hv, hw, ⟨cur, hk⟩⟩ := q.vz.put hi x ho (fun g hg => ⟨hap g hg, fun e => by cases e⟩)
  refine ⟨g, hg, hc, hf, ⟨?_, ?_, hv, fun k g' hg' hn => ?_, q.mge, q.lge⟩, LgW.of_wr hw (fun j e => by rw [e]; exact ⟨hB, lk_kind hk (by simp)⟩)⟩
  · exact (hw.block lb (blk_lt q.box) (fun e => own_box q.vz.so.row q.box (by decide) (by rw [hg, e]; rfl))).trans q.box
  · exact q.his.wr hw (q.his.map.ne hk) (fun j e => by rw [e]; exact noV_kind hk (by decide))
  · rcases nbl_set hn with hn | hn
    · exact q.far k g' hg' hn
    · exact hah k g' hg' hn
theorem LgAt.next {w : World} {B lb m N : Nat} {h : ByteArray → Value} {f s : Sl} {hs : List SeH} {d : VsD} (q : LgAt w B lb m N h f s hs d) (n : Int) : LgAt (w.setCell ⟨lb, 0, none⟩ (.int .i64 n)) B lb m N h f s hs ⟨n, d.list, d.fen, d.ses⟩ ∧ LgW B m w (w.setCell ⟨lb, 0, none⟩ (.int .i64 n)) := by
  have hw := set1_wr w lb 0 (.int .i64 n)
  have hv := q.vz.box q.box (by decide) (by decide) (by decide) hw
  exact ⟨⟨heap_set q.box 0 _, q.his.wr hw (q.his.map.ne q.box) (fun j e => by rw [e]; exact noV_kind q.box (by decide)), ⟨hv.vo, hv.fo, hv.so, hv.ss, hv.far⟩, q.far, q.mge, q.lge⟩, LgW.of_wr hw (fun j e => by rw [e]; exact ⟨q.lge, lk_kind q.box (by simp)⟩)⟩
/-- A row of fences has grown. -/
theorem LgAt.grown {w w' : World} {B lb m N : Nat} {h : ByteArray → Value} {f s : Sl} {hs : List SeH} {d : VsD} (q : LgAt w B lb m N h f s hs d) (hg : w.grownBy w' (Value.slice f.a f.n f.c).ownBlock) :
    w'.heap[lb]? = some (.cells #[.int .i64 d.next, .map (some m), .slice f.a f.n f.c, .slice s.a s.n s.c] 223 (0, 0)) ∧ HisAt w' m N (m + 1) h d.list ∧ SeOwn w' B (.slice s.a s.n s.c) hs ∧ LgW B m w w' := by
  have hw := grown_wr hg
  have kd : ∀ i, (Value.slice f.a f.n f.c).ownBlock = some i → ∃ cur, w.heap[i]? = some (.cells cur 232 (0, 0)) := fun i e => own_kind q.vz.fo e
  refine ⟨(hw.block lb (blk_lt q.box) (own_box q.vz.fo q.box (by decide))).trans q.box, q.his.wr hw (fun e => by obtain ⟨cur, hc⟩ := kd _ e; exact q.his.map.ne hc rfl) (fun i e => by obtain ⟨cur, hc⟩ := kd _ e; exact noV_kind hc (by decide)), q.vz.so.keep hw (fun i hi e => by obtain ⟨cur, hc⟩ := kd _ e; exact se_far q.vz.so hc (by decide) (by decide) hi), LgW.of_wr hw (fun i e => by obtain ⟨cur, hc⟩ := kd _ e; exact ⟨(q.vz.fo.lt i e).1, lk_kind hc (by simp)⟩)⟩
def nilS : Sl := ⟨none, 0, 0⟩
theorem LgAt.fresh {w : World} {B lb m N : Nat} {h : ByteArray → Value} {f s : Sl} {hs : List SeH} {d : VsD} (q : LgAt w B lb m N h f s hs d) (cs : Array Value) (t : TypeId) : LgAt (w.alloc (.cells cs t)) B lb m N h f s hs d ∧ LgW B m w (w.alloc (.cells cs t)) :=
  have b : Below w.heap.size w (w.alloc (.cells cs t)) := (Below.refl _ _).alloc (Nat.le_refl _) _
  ⟨q.below b, LgW.of_below b⟩
theorem LgW.sv {B m rb : Nat} {w u : World} (h : LgW B m w u) (hr : w.heap.size ≤ rb) (v0 v1 v2 v3 : Value) : LgW B m w (sv4 u rb v0 v1 v2 v3) := by
  have k := sv4_wr u rb v0 v1 v2 v3
  exact ⟨k.os.trans h.os, k.tape.trans h.tape, k.output.trans h.output, Nat.le_trans h.size k.size, fun i hi hp => (k.block i (Nat.lt_of_lt_of_le hi h.size) (by omega)).trans (h.block i hi hp)⟩
theorem rep_box {m : Nat} {w : World} {b : Nat} {cs : Array Value} (h : w.heap[b]? = some (.cells cs 47 (0, 0))) : ¬ LK m w b := by
  rintro (⟨_, es, c, e⟩ | ⟨cs', t', fr, e, ht⟩)
  · rw [h] at e; cases e
  · rw [h] at e
    injection e with e
    injection e with _ e _
    subst e
    rcases ht with e | e | e | e <;> exact absurd e (by decide)
/-- A reply stored. -/
theorem LgAt.rep {w : World} {B lb m N rb : Nat} {h : ByteArray → Value} {f s : Sl} {hs : List SeH} {d : VsD} {cs : Array Value} (q : LgAt w B lb m N h f s hs d) (hb : w.heap[rb]? = some (.cells cs 47 (0, 0))) (v0 v1 v2 v3 : Value) : LgAt (sv4 w rb v0 v1 v2 v3) B lb m N h f s hs d := q.wr (sv4_wr w rb v0 v1 v2 v3) (fun i e => by rw [e]; exact rep_box hb)
end Go.Proofs.YtcflepnckjappaaGreat

namespace Go.Proofs.YtcflepnckjappaaGreat
open Go.RowKit

theorem vcs_takeN : ∀ (es : List VerD) (n : Nat), vcs (es.take n) = (vcs es).take (n * 4)
  | [], n => by simp [vcs]
  | e :: r, 0 => by simp [vcs]
  | e :: r, n + 1 => by
    rw [List.take_succ_cons, show (n + 1) * 4 = n * 4 + 1 + 1 + 1 + 1 by omega]
    simp only [vcs, List.take_succ_cons, vcs_takeN r n]
theorem vcs_dropN : ∀ (es : List VerD) (n : Nat), vcs (es.drop n) = (vcs es).drop (n * 4)
  | [], n => by simp [vcs]
  | e :: r, 0 => by simp [vcs]
  | e :: r, n + 1 => by
    rw [List.drop_succ_cons, show (n + 1) * 4 = n * 4 + 1 + 1 + 1 + 1 by omega]
    simp only [vcs, List.drop_succ_cons, vcs_dropN r n]
/-- The row lies where it lay, or in a new block. -/
def LocV (w : World) (v : Value) (r : Option Nat) : Prop := v.ownBlock = r ∨ ∃ b, w.heap.size ≤ b ∧ v.ownBlock = some b
theorem run_copy_rowV (w : World) (ty : TypeId) (g o dLen dCap : Nat) (a : Addr) (sLen sCap : Nat) (cur : Array Value) (cs : List Value)
    (hg : w.heap[g]? = some (.cells cur 51 (0, 0))) (hn : cs.length = Nat.min sLen dLen * 4)
    (hsrc : ∀ j v, cs[j]? = some v → w.cell? (a.add j) = some v) (hfit : o + cs.length ≤ cur.size) (h1 : ∀ v ∈ cs, v.oneCell' = true) :
    (Builtin.copy_ #[25, 25] ty #[.slice (some ⟨g, o, none⟩) dLen dCap, .slice (some a) sLen sCap]).run Tryz.prog w =
      .ok (goInt (Nat.min sLen dLen)) (w.setRow g (cur.toList.take o ++ cs ++ cur.toList.drop (o + cs.length)).toArray) := by
  have hl := run_loadCells_list (P := Tryz.prog) w a cs hsrc
  have hst := run_storeCells_at Tryz.prog g o 51 cs 0 cur w hg (by simpa using hfit) h1
  obtain ⟨i, hq, _, hi, _⟩ := info_parts Tryz.infoVersion
  simp [Builtin.copy_, run_underlying Tryz.underlying25, Builtin.lenOf, Builtin.firstCells, sizeOf, typeInfo, hq, hi, ← hn, hl, hst]
set_option maxRecDepth 100000 in
set_option maxHeartbeats 4000000 in
theorem insV_end (B : Nat) (a : Option Addr) (c : Nat) (es : List VerD) (e : VerD) (vb : Nat) (w : World) (hown : VOwns w B (.slice a es.length c) es) (hlen : es.length ≤ 1000) (hB : B ≤ w.heap.size)
    (hv : w.heap[vb]? = some (.cells #[.string e.k, .int .i64 e.t, .string e.v, .bool e.g] 51 (0, 0))) :
    Calls Tryz.prog 285 #[.slice a es.length c, .int .i64 (es.length : Int), .slice (some ⟨vb, 0, none⟩) 1 1] w fun x w' => ∃ v', x = .returned v' ∧ VOwns w' B v' (es ++ [e]) ∧ v' ≠ .slice none 0 0 ∧ w.grownBy w' (Value.slice a es.length c).ownBlock ∧ LocV w v' (Value.slice a es.length c).ownBlock := by
  obtain ⟨i0, hi0, hz0, hz1, hz2⟩ := info_parts Tryz.infoVersion
  have hvs : ∀ j u, [Value.string e.k, Value.int .i64 e.t, Value.string e.v, Value.bool e.g][j]? = some u → w.cell? ((⟨vb, 0, none⟩ : Addr).add j) = some u := fun j u hj => by
    match j, hj with
    | 0, hj => simp at hj; subst hj; simp [Addr.add, World.cell?, hv]
    | 1, hj => simp at hj; subst hj; simp [Addr.add, World.cell?, hv]
    | 2, hj => simp at hj; subst hj; simp [Addr.add, World.cell?, hv]
    | 3, hj => simp at hj; subst hj; simp [Addr.add, World.cell?, hv]
  have hcap : es.length ≤ c := by
    rcases hown.2 with ⟨e, hn⟩ | ⟨g, cap, cur, e, _, _, h1, _⟩
    · omega
    · injection e with _ _ e3; omega
  obtain ⟨v', w', hrun, ho', hg, hnn, hloc⟩ := app_at (P := Tryz.prog) (w := w) (B := B) 25 25 51 Tryz.underlying25 hi0 hz0 hz1 hz2 rfl (by decide) hown ⟨vb, 0, none⟩ 1 1 [.string e.k, .int .i64 e.t, .string e.v, .bool e.g] rfl hvs (by intro u hu; simp at hu; rcases hu with rfl | rfl | rfl | rfl <;> rfl) (by unfold maxLen; omega) (by omega) hB (fun _ => by omega)
  have RES := hide (show VOwns w' B v' (es ++ [e]) ∧ v' ≠ .slice none 0 0 ∧ w.grownBy w' (Value.slice a es.length c).ownBlock ∧ LocV w v' (Value.slice a es.length c).ownBlock from ⟨by
    have h := ho'
    rw [← show vcs [e] = [.string e.k, .int .i64 e.t, .string e.v, .bool e.g] from rfl, ← vcs_append] at h
    unfold VOwns
    rw [List.length_append]
    exact h, hnn, hg, by
    rcases hloc with h | h
    · exact .inl h
    · exact .inr ⟨_, Nat.le_refl _, h⟩⟩)
  clear hown hvs hv ho' hg hnn hloc hi0 hz0 hz1 hz2
  go_enter Tryz.func285, Tryz.ntmps285
  go_wp2_with (at_builtin; refine wpAppE rfl _ _ 25 rfl _ _ v' w' rfl rfl hrun ?_)
  all_goals
    go_ret
    exact ⟨v', rfl, by have h := unhide RES; cases a <;> exact h⟩
/-- A row of entries of the call's own, with an address. -/
theorem vIform {w : World} {B n c : Nat} {a : Option Addr} {es : List VerD} (h : VOwns w B (.slice a n c) es) (h0 : 0 < es.length) : ∃ g cur, a = some ⟨g, 0, none⟩ ∧ n = es.length ∧ B ≤ g ∧ w.heap[g]? = some (.cells cur 51 (0, 0)) ∧ n ≤ c ∧ c ≤ maxLen ∧ cur.size = c * 4 ∧ cur.toList.take (n * 4) = vcs es := by
  rcases h.2 with ⟨e, hn⟩ | ⟨g, cap, cur, e, hb, hh, h1, h2, h3, h4⟩
  · omega
  · injection e with e1 e2 e3
    subst e1 e2 e3
    exact ⟨g, cur, rfl, rfl, hb, hh, h1, h2, h3, h4⟩
theorem vIback {w : World} {B g c n : Nat} {es : List VerD} {cur : Array Value} (hb : B ≤ g) (hh : w.heap[g]? = some (.cells cur 51 (0, 0))) (hn : n = es.length) (h1 : n ≤ c) (h2 : c ≤ maxLen) (h3 : cur.size = c * 4) (h4 : cur.toList.take (n * 4) = vcs es) : VOwns w B (.slice (some ⟨g, 0, none⟩) n c) es := by
  subst hn
  exact ⟨vcs_len es, .inr ⟨g, c, cur, rfl, hb, hh, h1, h2, h3, h4⟩⟩
theorem shift_list4 {cur E : List Value} {p q : Nat} (x y z u : Value) (hE : cur.take q = E) (hq : E.length = q) (hp : p ≤ q) (hl : q + 4 ≤ cur.length) :
    (cur.take (p + 4) ++ E.drop p ++ cur.drop (p + 4 + (E.drop p).length)).length = cur.length ∧
    (((cur.take (p + 4) ++ E.drop p ++ cur.drop (p + 4 + (E.drop p).length)).take p ++ [x, y, z, u] ++ (cur.take (p + 4) ++ E.drop p ++ cur.drop (p + 4 + (E.drop p).length)).drop (p + 4)).length = cur.length) ∧
    ((cur.take (p + 4) ++ E.drop p ++ cur.drop (p + 4 + (E.drop p).length)).take p ++ [x, y, z, u] ++ (cur.take (p + 4) ++ E.drop p ++ cur.drop (p + 4 + (E.drop p).length)).drop (p + 4)).take (q + 4) = E.take p ++ x :: y :: z :: u :: E.drop p := by
  have l1 : (cur.take (p + 4)).length = p + 4 := by rw [List.length_take]; omega
  have l2 : (E.drop p).length = q - p := by rw [List.length_drop, hq]
  have t1 : (cur.take (p + 4) ++ E.drop p ++ cur.drop (p + 4 + (E.drop p).length)).take p = E.take p := by
    rw [List.append_assoc, List.take_append_of_le_length (by omega), List.take_take, ← hE, List.take_take]
    congr 1
    omega
  have t2 : (cur.take (p + 4) ++ E.drop p ++ cur.drop (p + 4 + (E.drop p).length)).drop (p + 4) = E.drop p ++ cur.drop (p + 4 + (E.drop p).length) := by
    rw [List.append_assoc, List.drop_append_of_le_length (by omega), List.drop_of_length_le (by omega), List.nil_append]
  have l3 : (cur.drop (p + 4 + (q - p))).length = cur.length - (q + 4) := by rw [List.length_drop]; omega
  have l4 : (E.take p).length = p := by rw [List.length_take]; omega
  refine ⟨?_, ?_, ?_⟩
  · simp only [List.length_append, l1, l2, l3]; omega
  · rw [t1, t2]
    simp only [List.length_append, l2, l3, l4, List.length_cons, List.length_nil]; omega
  · rw [t1, t2, show E.take p ++ [x, y, z, u] ++ (E.drop p ++ cur.drop (p + 4 + (E.drop p).length)) = (E.take p ++ x :: y :: z :: u :: E.drop p) ++ cur.drop (p + 4 + (E.drop p).length) by simp]
    rw [List.take_append_of_le_length (by simp only [List.length_append, List.length_cons, l2, l4]; omega), List.take_of_length_le (by simp only [List.length_append, List.length_cons, l2, l4]; omega)]
set_option maxRecDepth 100000 in
set_option maxHeartbeats 4000000 in
theorem insV_room (B g c n i : Nat) (es : List VerD) (e : VerD) (vb : Nat) (cur : Array Value) (w : World) (hb : B ≤ g) (hh : w.heap[g]? = some (.cells cur 51 (0, 0))) (hn : n = es.length) (h1 : n + 1 ≤ c) (h2 : c ≤ maxLen) (h3 : cur.size = c * 4) (h4 : cur.toList.take (n * 4) = vcs es)
    (hi : i < n) (hlen : n ≤ 1000) (hv : w.heap[vb]? = some (.cells #[.string e.k, .int .i64 e.t, .string e.v, .bool e.g] 51 (0, 0))) (hne : vb ≠ g) :
    Calls Tryz.prog 285 #[.slice (some ⟨g, 0, none⟩) n c, .int .i64 (i : Int), .slice (some ⟨vb, 0, none⟩) 1 1] w fun x w' => ∃ v', x = .returned v' ∧ VOwns w' B v' (es.take i ++ e :: es.drop i) ∧ v' ≠ .slice none 0 0 ∧ w.grownBy w' (some g) ∧ LocV w v' (some g) := by
  have hel := vcs_len es
  have hc63 : c ≤ 9223372036854775807 := by unfold maxLen at h2; omega
  have hz1 : ¬ ((i : Int) = (n : Int)) := by omega
  have hov : ∀ lb cb, (callFunc 325 #[.slice (some ⟨vb, 0, none⟩) 1 1, .slice (some ⟨g, (i + 1) * 4, none⟩) lb cb]).run Tryz.prog w = .ok (.value (.bool false)) w := fun lb cb => by
    rw [run_callFunc_extern Tryz.func325 (by kernel_rfl) (by kernel_rfl) (by kernel_rfl) (e := Extern.SlicesOverlaps.overlaps #[25, 25] #[4]) (by kernel_rfl),
      Lib.run_overlaps_apart w 25 4 51 Tryz.underlying25 4 (fun w => by obtain ⟨i, hq, _, hi, _⟩ := info_parts Tryz.infoVersion; simp [sizeOf, typeInfo, hq, hi]) ⟨vb, 0, none⟩ ⟨g, (i + 1) * 4, none⟩ 1 1 lb cb hne 51 51 4 (c * 4) (by simp [World.shape?, hv]) (by simp [World.shape?, hh, h3]) (by omega) (by simp [World.frozen?, hv]) (by simp [World.frozen?, hv])]
    rfl
  have hE2 : cur.toList.take (n * 4) = vcs es := h4
  obtain ⟨sl1, sl2, sl3⟩ := shift_list4 (p := i * 4) (.string e.k) (.int .i64 e.t) (.string e.v) (.bool e.g) hE2 (by rw [vcs_len, hn]) (by omega) (by simp [h3]; omega)
  have hdl : (List.drop (i * 4) (vcs es)).length = (n - i) * 4 := by rw [List.length_drop, vcs_len, ← hn]; omega
  obtain ⟨R1, hR1⟩ : ∃ R1, R1 = cur.toList.take (i * 4 + 4) ++ (vcs es).drop (i * 4) ++ cur.toList.drop (i * 4 + 4 + ((vcs es).drop (i * 4)).length) := ⟨_, rfl⟩
  rw [← hR1] at sl1 sl2 sl3
  obtain ⟨R2, hR2⟩ : ∃ R2, R2 = R1.take (i * 4) ++ [Value.string e.k, Value.int .i64 e.t, Value.string e.v, Value.bool e.g] ++ R1.drop (i * 4 + 4) := ⟨_, rfl⟩
  rw [← hR2] at sl2 sl3
  obtain ⟨W1, hW1⟩ : ∃ W1, W1 = w.drew.setRow g R1.toArray := ⟨_, rfl⟩
  have hg1 : W1.heap[g]? = some (.cells R1.toArray 51 (0, 0)) := by rw [hW1]; exact setRow_heap w.drew g cur _ _ _ hh
  have hv1 : W1.heap[vb]? = some (.cells #[.string e.k, .int .i64 e.t, .string e.v, .bool e.g] 51 (0, 0)) := by rw [hW1, setRow_other _ _ _ _ hne]; exact hv
  have hcp1 : ∀ dc sc, (Builtin.copy_ #[25, 25] 3 #[.slice (some ⟨g, (i + 1) * 4, none⟩) (n + 1 - (i + 1)) dc, .slice (some ⟨g, i * 4, none⟩) (n + 1 - i) sc]).run Tryz.prog w.drew = .ok (goInt (Nat.min (n + 1 - i) (n + 1 - (i + 1)))) W1 := fun dc sc => by
    rw [hW1, hR1, run_copy_rowV w.drew 3 g ((i + 1) * 4) (n + 1 - (i + 1)) dc ⟨g, i * 4, none⟩ (n + 1 - i) sc cur ((vcs es).drop (i * 4)) hh (by rw [hdl]; show _ = min _ _ * 4; omega) (fun j u hj => by
      rw [Addr.add_lit]
      rw [List.getElem?_drop, ← hE2, List.getElem?_take] at hj
      split at hj
      · show w.cell? _ = _
        simp only [World.cell?, hh]
        simpa using hj
      · cases hj) (by rw [hdl, h3]; omega) (fun u hu => vcs_one es u (List.mem_of_mem_drop hu)), show (i + 1) * 4 = i * 4 + 4 by omega]
  have hcp2 : ∀ dc, (Builtin.copy_ #[25, 25] 3 #[.slice (some ⟨g, i * 4, none⟩) (n + 1 - i) dc, .slice (some ⟨vb, 0, none⟩) 1 1]).run Tryz.prog W1 = .ok (goInt (Nat.min 1 (n + 1 - i))) (W1.setRow g R2.toArray) := fun dc => by
    rw [run_copy_rowV W1 3 g (i * 4) (n + 1 - i) dc ⟨vb, 0, none⟩ 1 1 R1.toArray [.string e.k, .int .i64 e.t, .string e.v, .bool e.g] hg1 (by show 4 = min _ _ * 4; omega) (fun j u hj => by
      match j, hj with
      | 0, hj => simp at hj; subst hj; simp [Addr.add, World.cell?, hv1]
      | 1, hj => simp at hj; subst hj; simp [Addr.add, World.cell?, hv1]
      | 2, hj => simp at hj; subst hj; simp [Addr.add, World.cell?, hv1]
      | 3, hj => simp at hj; subst hj; simp [Addr.add, World.cell?, hv1]) (by simp [sl1, h3]; omega) (by intro u hu; simp at hu; rcases hu with rfl | rfl | rfl | rfl <;> rfl), hR2]
    rfl
  have hOW : VOwns (W1.setRow g R2.toArray) B (.slice (some ⟨g, 0, none⟩) (n + 1) c) (es.take i ++ e :: es.drop i) := by
    refine vIback hb (setRow_heap W1 g _ _ _ _ hg1) (by simp; omega) h1 h2 (by simp [sl2, h3]) ?_
    rw [vcs_append]
    simp only [vcs]
    rw [vcs_takeN, vcs_dropN]
    rw [← sl3, show (n + 1) * 4 = n * 4 + 4 by omega]
  have hGR : w.grownBy (W1.setRow g R2.toArray) (some g) := by
    refine grown_trans ?_ (grown_setRow W1 g _)
    rw [hW1]
    have := grown_setRow w.drew g R1.toArray
    exact ⟨this.os, this.tape, this.output, this.size, this.block⟩
  have HOW := hide hOW
  have HGR := hide hGR
  clear hOW hGR sl1 sl2 sl3 hR1 hR2 hW1 hg1 hv1 hdl hE2 h4 hv hh h3 hel
  have hw1 : IntKind.i64.wrap ((i : Int) + 1) = (i : Int) + 1 := by rw [IntKind.wrap_i64]; omega
  have hb1 : (0 : Int) ≤ (i : Int) + 1 := by omega
  have hin : i ≤ n := by omega
  have htn : ((i : Int) + 1).toNat = i + 1 := by omega
  have hb2 : ¬ (c = i + 1) := by omega
  have hb3 : (i : Int) ≤ (n : Int) + 1 := by omega
  have hb4 : ¬ (c = i) := by omega
  clear hn
  go_enter Tryz.func285, Tryz.ntmps285
  go_wp2_with (simp only [hov])
  go_region_law (refine stepCopyE rfl (.tmp 73) (.tmp 76) 25 rfl (.slice (some ⟨g, (i + 1) * 4, none⟩) (n + 1 - (i + 1)) (c - (i + 1))) (.slice (some ⟨g, i * 4, none⟩) (n + 1 - i) (c - i)) (goInt (Nat.min (n + 1 - i) (n + 1 - (i + 1)))) W1 (by simp [Act.eval, Act.put]) (by simp [Act.eval, Act.put]) (hcp1 _ _) ?_)
  go_wp2_with (at_builtin; refine wpCopyE rfl (.tmp 80) (.tmp 81) 25 rfl (.slice (some ⟨g, i * 4, none⟩) (n + 1 - i) (c - i)) (.slice (some ⟨vb, 0, none⟩) 1 1) (goInt (Nat.min 1 (n + 1 - i))) (W1.setRow g R2.toArray) rfl rfl (hcp2 _) ?_)
  go_ret
  exact ⟨_, rfl, unhide HOW, by simp, unhide HGR, .inl rfl⟩
theorem grow_list4 {E Z1 Z2 : List Value} {p q : Nat} (x y z u : Value) (hq : E.length = q) (hp : p ≤ q) (hz : Z1.length = q + 4 - p) :
    (E.take p ++ Z1 ++ Z2).length = q + 4 + Z2.length ∧
    ((E.take p ++ Z1 ++ Z2).take p ++ [x, y, z, u] ++ (E.take p ++ Z1 ++ Z2).drop (p + 4)).length = q + 4 + Z2.length ∧
    (((E.take p ++ Z1 ++ Z2).take p ++ [x, y, z, u] ++ (E.take p ++ Z1 ++ Z2).drop (p + 4)).take (p + 4) ++ E.drop p ++ ((E.take p ++ Z1 ++ Z2).take p ++ [x, y, z, u] ++ (E.take p ++ Z1 ++ Z2).drop (p + 4)).drop (p + 4 + (E.drop p).length)).length = q + 4 + Z2.length ∧
    (((E.take p ++ Z1 ++ Z2).take p ++ [x, y, z, u] ++ (E.take p ++ Z1 ++ Z2).drop (p + 4)).take (p + 4) ++ E.drop p ++ ((E.take p ++ Z1 ++ Z2).take p ++ [x, y, z, u] ++ (E.take p ++ Z1 ++ Z2).drop (p + 4)).drop (p + 4 + (E.drop p).length)).take (q + 4) = E.take p ++ x :: y :: z :: u :: E.drop p := by
  have l4 : (E.take p).length = p := by rw [List.length_take]; omega
  have l2 : (E.drop p).length = q - p := by rw [List.length_drop, hq]
  have l0 : (E.take p ++ Z1 ++ Z2).length = q + 4 + Z2.length := by simp only [List.length_append, l4, hz]; omega
  have t1 : (E.take p ++ Z1 ++ Z2).take p = E.take p := by rw [List.append_assoc, List.take_append_of_le_length (by omega), List.take_of_length_le (by omega)]
  obtain ⟨D, hD⟩ : ∃ D, D = (E.take p ++ Z1 ++ Z2).drop (p + 4) := ⟨_, rfl⟩
  have lD : D.length = q + Z2.length - p := by rw [hD, List.length_drop, l0]; omega
  rw [t1, ← hD]
  have t3 : (E.take p ++ [x, y, z, u] ++ D).take (p + 4) = E.take p ++ [x, y, z, u] := by
    rw [List.take_append_of_le_length (by simp only [List.length_append, l4, List.length_cons, List.length_nil]; omega), List.take_of_length_le (by simp only [List.length_append, l4, List.length_cons, List.length_nil]; omega)]
  refine ⟨l0, ?_, ?_, ?_⟩
  · simp only [List.length_append, l4, lD, List.length_cons, List.length_nil]; omega
  · rw [t3]
    simp only [List.length_append, List.length_drop, l2, l4, lD, List.length_cons, List.length_nil]; omega
  · rw [t3, show E.take p ++ [x, y, z, u] ++ E.drop p = E.take p ++ x :: y :: z :: u :: E.drop p by simp]
    rw [List.take_append_of_le_length (by simp only [List.length_append, List.length_cons, l2, l4]; omega), List.take_of_length_le (by simp only [List.length_append, List.length_cons, l2, l4]; omega)]
set_option maxRecDepth 100000 in
set_option maxHeartbeats 4000000 in
theorem insV_grow (B g n i : Nat) (es : List VerD) (e : VerD) (vb : Nat) (cur : Array Value) (w : World) (hB : B ≤ w.heap.size) (hh : w.heap[g]? = some (.cells cur 51 (0, 0))) (hn : n = es.length) (h4 : cur.toList.take (n * 4) = vcs es)
    (hi : i < n) (hlen : n ≤ 1000) (hv : w.heap[vb]? = some (.cells #[.string e.k, .int .i64 e.t, .string e.v, .bool e.g] 51 (0, 0))) :
    Calls Tryz.prog 285 #[.slice (some ⟨g, 0, none⟩) n n, .int .i64 (i : Int), .slice (some ⟨vb, 0, none⟩) 1 1] w fun x w' => ∃ v', x = .returned v' ∧ VOwns w' B v' (es.take i ++ e :: es.drop i) ∧ v' ≠ .slice none 0 0 ∧ w.grownBy w' (some g) ∧ LocV w v' (some g) := by
  obtain ⟨i0, hi0, hz0, hzs, hzb⟩ := info_parts Tryz.infoVersion
  have hel := vcs_len es
  have hgw : g < w.heap.size := (Array.getElem?_eq_some_iff.1 hh).1
  have hvw : vb < w.heap.size := (Array.getElem?_eq_some_iff.1 hv).1
  have hik : i + (n + 1 - i) = n + 1 := by omega
  have hold : (Builtin.firstCells i0.size i (.slice (some ⟨g, 0, none⟩) i n)).run Tryz.prog w.drew = .ok ((vcs es).take (i * 4)).toArray w.drew := by
    rw [hzs]
    exact run_firstCells_some w.drew 4 i ⟨g, 0, none⟩ i n ((vcs es).take (i * 4)) (by rw [List.length_take]; omega) (fun j v hj => by
      rw [Addr.add_lit]
      rw [List.getElem?_take, ← h4, List.getElem?_take] at hj
      split at hj
      · split at hj
        · show w.cell? _ = _
          simp only [World.cell?, hh]
          simpa using hj
        · cases hj
      · cases hj)
  obtain ⟨G, hG⟩ : ∃ G, G = grownCap w (n + 1) n 51 := ⟨_, rfl⟩
  have hGn : n + 1 ≤ G := by rw [hG]; exact grownCap_ge w _ _ _
  have hGm : G ≤ maxLen := by rw [hG]; exact grownCap_le_maxLen w (n + 1) n 51 (by unfold maxLen; omega)
  obtain ⟨Z1, hZ1⟩ : ∃ Z1, Z1 = (Builtin.zeroCells (Value.agg #[.string ByteArray.empty, .int .i64 0, .string ByteArray.empty, .bool false]).cells (n + 1 - i)).toList := ⟨_, rfl⟩
  obtain ⟨Z2, hZ2⟩ : ∃ Z2, Z2 = (Builtin.zeroCells (Value.agg #[.string ByteArray.empty, .int .i64 0, .string ByteArray.empty, .bool false]).cells (G - (n + 1))).toList := ⟨_, rfl⟩
  have lz1 : Z1.length = n * 4 + 4 - i * 4 := by rw [hZ1]; simp [Builtin.zeroCells, Value.cells]; omega
  have lz2 : Z2.length = (G - (n + 1)) * 4 := by rw [hZ2]; simp [Builtin.zeroCells, Value.cells]
  obtain ⟨g0, g1, g2, g3⟩ := grow_list4 (E := vcs es) (Z1 := Z1) (Z2 := Z2) (p := i * 4) (q := n * 4) (.string e.k) (.int .i64 e.t) (.string e.v) (.bool e.g) (by rw [hel, hn]) (by omega) lz1
  obtain ⟨R0, hR0⟩ : ∃ R0, R0 = (vcs es).take (i * 4) ++ Z1 ++ Z2 := ⟨_, rfl⟩
  rw [← hR0] at g0 g1 g2 g3
  obtain ⟨R1, hR1⟩ : ∃ R1, R1 = R0.take (i * 4) ++ [Value.string e.k, Value.int .i64 e.t, Value.string e.v, Value.bool e.g] ++ R0.drop (i * 4 + 4) := ⟨_, rfl⟩
  rw [← hR1] at g1 g2 g3
  obtain ⟨R2, hR2⟩ : ∃ R2, R2 = R1.take (i * 4 + 4) ++ (vcs es).drop (i * 4) ++ R1.drop (i * 4 + 4 + ((vcs es).drop (i * 4)).length) := ⟨_, rfl⟩
  rw [← hR2] at g2 g3
  obtain ⟨W1, hW1⟩ : ∃ W1, W1 = w.drew.alloc (.cells R0.toArray 51) := ⟨_, rfl⟩
  have hrz : ∀ ty, (Builtin.append_ #[25, 3] ty #[.slice (some ⟨g, 0, none⟩) i n, .int .i64 ((n : Int) + 1 - (i : Int))]).run Tryz.prog w = .ok (.slice (some ⟨w.heap.size, 0, none⟩) (n + 1) G) W1 := fun ty => by
    have h := Lib.run_append_grow_zeros w 25 3 ty 51 i0 _ .i64 .i64 Tryz.underlying25 Tryz.underlying3 hi0 hz0 (some ⟨g, 0, none⟩) i n ((vcs es).take (i * 4)) hold (n + 1 - i) (by omega) (by omega) (by omega) (by omega) (by rw [hzb]; omega) (by rw [hzb, hik]; exact growslice_fits (by omega) (by omega))
    rw [hik, ← hG] at h
    rw [show (n : Int) + 1 - (i : Int) = ((n + 1 - i : Nat) : Int) by omega, h, hW1, hR0, hZ1, hZ2]
    congr 4
    apply Array.ext'
    simp
  have hsw : W1.heap.size = w.heap.size + 1 := by rw [hW1]; simp
  have hg1 : W1.heap[w.heap.size]? = some (.cells R0.toArray 51 (0, 0)) := by rw [hW1]; exact heap_alloc_new w.drew _
  have hbl : Below w.heap.size w W1 := by
    have := ((Below.refl w.heap.size w).alloc (Nat.le_refl _) (.cells R0.toArray 51))
    rw [hW1]
    exact ⟨this.os, this.tape, this.output, this.size, this.block⟩
  have hv1 : W1.heap[vb]? = some (.cells #[.string e.k, .int .i64 e.t, .string e.v, .bool e.g] 51 (0, 0)) := (hbl.block vb hvw).trans hv
  have hh1 : W1.heap[g]? = some (.cells cur 51 (0, 0)) := (hbl.block g hgw).trans hh
  obtain ⟨W2, hW2⟩ : ∃ W2, W2 = W1.setRow w.heap.size R1.toArray := ⟨_, rfl⟩
  have hg2 : W2.heap[w.heap.size]? = some (.cells R1.toArray 51 (0, 0)) := by rw [hW2]; exact setRow_heap W1 _ _ _ _ _ hg1
  have hh2 : W2.heap[g]? = some (.cells cur 51 (0, 0)) := by rw [hW2, setRow_other _ _ _ _ (by omega)]; exact hh1
  have hcp1 : ∀ dc, (Builtin.copy_ #[25, 25] 3 #[.slice (some ⟨w.heap.size, i * 4, none⟩) (n + 1 - i) dc, .slice (some ⟨vb, 0, none⟩) 1 1]).run Tryz.prog W1 = .ok (goInt (Nat.min 1 (n + 1 - i))) W2 := fun dc => by
    rw [run_copy_rowV W1 3 w.heap.size (i * 4) (n + 1 - i) dc ⟨vb, 0, none⟩ 1 1 R0.toArray [.string e.k, .int .i64 e.t, .string e.v, .bool e.g] hg1 (by show 4 = min _ _ * 4; omega) (fun j u hj => by
      match j, hj with
      | 0, hj => simp at hj; subst hj; simp [Addr.add, World.cell?, hv1]
      | 1, hj => simp at hj; subst hj; simp [Addr.add, World.cell?, hv1]
      | 2, hj => simp at hj; subst hj; simp [Addr.add, World.cell?, hv1]
      | 3, hj => simp at hj; subst hj; simp [Addr.add, World.cell?, hv1]) (by simp [g0]; omega) (by intro u hu; simp at hu; rcases hu with rfl | rfl | rfl | rfl <;> rfl), hW2, hR1]
    rfl
  have hdl : (List.drop (i * 4) (vcs es)).length = (n - i) * 4 := by rw [List.length_drop, hel, ← hn]; omega
  obtain ⟨W3, hW3⟩ : ∃ W3, W3 = W2.drew.setRow w.heap.size R2.toArray := ⟨_, rfl⟩
  have hcp2 : ∀ dc sc, (Builtin.copy_ #[25, 25] 3 #[.slice (some ⟨w.heap.size, (i + 1) * 4, none⟩) (n + 1 - (i + 1)) dc, .slice (some ⟨g, i * 4, none⟩) (n - i) sc]).run Tryz.prog W2.drew = .ok (goInt (Nat.min (n - i) (n + 1 - (i + 1)))) W3 := fun dc sc => by
    rw [hW3, hR2, run_copy_rowV W2.drew 3 w.heap.size ((i + 1) * 4) (n + 1 - (i + 1)) dc ⟨g, i * 4, none⟩ (n - i) sc R1.toArray ((vcs es).drop (i * 4)) hg2 (by rw [hdl]; show _ = min _ _ * 4; omega) (fun j u hj => by
      rw [Addr.add_lit]
      rw [List.getElem?_drop, ← h4, List.getElem?_take] at hj
      split at hj
      · show W2.cell? _ = _
        simp only [World.cell?, hh2]
        simpa using hj
      · cases hj) (by rw [hdl]; simp [g1]; omega) (fun u hu => vcs_one es u (List.mem_of_mem_drop hu)), show (i + 1) * 4 = i * 4 + 4 by omega]
  have hOW : VOwns W3 B (.slice (some ⟨w.heap.size, 0, none⟩) (n + 1) G) (es.take i ++ e :: es.drop i) := by
    refine vIback hB (by rw [hW3]; exact setRow_heap W2.drew _ _ _ _ _ hg2) (by simp; omega) hGn hGm (by simp [g2, lz2]; omega) ?_
    rw [vcs_append]
    simp only [vcs]
    rw [vcs_takeN, vcs_dropN]
    rw [← g3, show (n + 1) * 4 = n * 4 + 4 by omega]
  have hGR : w.grownBy W3 (some g) := by
    refine grown_new ?_
    have hb2 : Below w.heap.size w W2 := by
      refine ⟨by rw [hW2]; exact hbl.os, by rw [hW2]; exact hbl.tape, by rw [hW2]; exact hbl.output, by rw [hW2, setRow_size]; exact hbl.size, fun k hk => ?_⟩
      rw [hW2, setRow_other _ _ _ _ (by omega)]
      exact hbl.block k hk
    refine ⟨by rw [hW3]; exact hb2.os, by rw [hW3]; exact hb2.tape, by rw [hW3]; exact hb2.output, by rw [hW3, setRow_size]; exact hb2.size, fun k hk => ?_⟩
    rw [hW3, setRow_other _ _ _ _ (by omega)]
    exact hb2.block k hk
  have HOW := hide hOW
  have HGR := hide hGR
  have hG63 : G ≤ 9223372036854775807 := by unfold maxLen at hGm; omega
  clear hOW hGR g0 g1 g2 g3 hR0 hR1 hR2 hW1 hW2 hW3 hg1 hg2 hv1 hh1 hh2 hdl h4 hv hh hel hold hG hZ1 hZ2 lz1 lz2 hbl hsw hik hz0 hzs hzb hi0
  have hw1 : IntKind.i64.wrap ((i : Int) + 1) = (i : Int) + 1 := by rw [IntKind.wrap_i64]; omega
  have hb1 : (0 : Int) ≤ (i : Int) + 1 := by omega
  have hz1 : ¬ ((i : Int) = (n : Int)) := by omega
  have hin : i ≤ n := by omega
  have htn : ((i : Int) + 1).toNat = i + 1 := by omega
  have hb2 : ¬ (G = i + 1) := by omega
  have hb3 : (i : Int) ≤ (n : Int) := by omega
  have hb4 : ¬ (G = i) := by omega
  have hb5 : ¬ (n = i) := by omega
  clear hn
  go_enter Tryz.func285, Tryz.ntmps285
  go_wp2_with (first
    | (at_builtin; refine Lib.wpList_append_run _ rfl _ _ _ _ rfl (.slice (some ⟨g, 0, none⟩) i n) (.int .i64 ((n : Int) + 1 - (i : Int))) rfl rfl (.slice (some ⟨w.heap.size, 0, none⟩) (n + 1) G) W1 (hrz _) ?_)
    | (at_builtin; refine wpCopyE rfl (.tmp 43) (.tmp 44) 25 rfl (.slice (some ⟨w.heap.size, i * 4, none⟩) (n + 1 - i) (G - i)) (.slice (some ⟨vb, 0, none⟩) 1 1) (goInt (Nat.min 1 (n + 1 - i))) W2 rfl rfl (hcp1 _) ?_))
  go_region_law (refine stepCopyE rfl (.tmp 50) (.tmp 53) 25 rfl (.slice (some ⟨w.heap.size, (i + 1) * 4, none⟩) (n + 1 - (i + 1)) (G - (i + 1))) (.slice (some ⟨g, i * 4, none⟩) (n - i) (n - i)) (goInt (Nat.min (n - i) (n + 1 - (i + 1)))) W3 (by simp [Act.eval, Act.put]) (by simp [Act.eval, Act.put]) (hcp2 _ _) ?_)
  go_wp2_with fail
  go_ret
  exact ⟨_, rfl, unhide HOW, by simp, unhide HGR, .inr ⟨_, Nat.le_refl _, rfl⟩⟩
theorem insertV_any (B : Nat) (a : Option Addr) (n c i : Nat) (es : List VerD) (e : VerD) (vb : Nat) (w : World) (hown : VOwns w B (.slice a n c) es) (hn : n = es.length) (hi : i ≤ n) (hlen : n ≤ 1000) (hB : B ≤ w.heap.size)
    (hv : w.heap[vb]? = some (.cells #[.string e.k, .int .i64 e.t, .string e.v, .bool e.g] 51 (0, 0))) (hne : ∀ x, a = some x → vb ≠ x.block) :
    Calls Tryz.prog 285 #[.slice a n c, .int .i64 (i : Int), .slice (some ⟨vb, 0, none⟩) 1 1] w fun x w' => ∃ v', x = .returned v' ∧ VOwns w' B v' (es.take i ++ e :: es.drop i) ∧ v' ≠ .slice none 0 0 ∧ w.grownBy w' (Value.slice a n c).ownBlock ∧ LocV w v' (Value.slice a n c).ownBlock := by
  rcases Nat.lt_or_eq_of_le hi with hlt | rfl
  · obtain ⟨g, cur, rfl, _, hb, hh, h1, h2, h3, h4⟩ := vIform hown (by omega)
    by_cases hr : n + 1 ≤ c
    · exact insV_room B g c n i es e vb cur w hb hh hn hr h2 h3 h4 hlt hlen hv (hne _ rfl)
    · obtain rfl : c = n := by omega
      exact insV_grow B g c i es e vb cur w hB hh hn h4 hlt hlen hv
  · subst hn
    have := insV_end B a c es e vb w hown hlen hB hv
    rw [List.take_length, List.drop_length]
    exact this
end Go.Proofs.YtcflepnckjappaaGreat

namespace Go.Proofs.YtcflepnckjappaaGreat
open Go.RowKit

theorem posV_uni {L : List VerD} {x : VerD} {f : Nat} (hf : f ≤ L.length) (lo : ∀ i (hi : i < L.length), i < f → ltV L[i] x = true) (hi : ∀ h : f < L.length, ltV L[f] x = false) : f = posV L x := by
  have hle := posV_le L x
  rcases Nat.lt_trichotomy f (posV L x) with h | h | h
  · have h1 := posV_lt L x f (by omega) h
    rw [hi (by omega)] at h1
    cases h1
  · exact h
  · have h1 := posV_at L x (by omega)
    rw [lo (posV L x) (by omega) h] at h1
    cases h1
theorem pairV_lt {L : List VerD} (h : L.Pairwise fun a b => ltV a b = true) {i j : Nat} (hj : j < L.length) (hij : i < j) : ltV (L[i]'(by omega)) L[j] = true := List.pairwise_iff_getElem.1 h i j (by omega) hj hij
theorem ltV_up {L : List VerD} {x : VerD} (h : L.Pairwise fun a b => ltV a b = true) {m : Nat} (hm : m < L.length) (hl : ltV L[m] x = true) : ∀ i (_ : i < L.length), i < m + 1 → ltV L[i] x = true := fun i hi hlt => by
  by_cases e : i = m
  · subst e; exact hl
  · exact ltV_trans (pairV_lt h hm (by omega)) hl
theorem ltV_dn {L : List VerD} {x : VerD} (h : L.Pairwise fun a b => ltV a b = true) {m : Nat} (hm : m < L.length) (hl : ltV L[m] x = false) : ∀ i (_ : i < L.length), m ≤ i → ltV L[i] x = false := fun i hi hle => by
  by_cases e : m = i
  · subst e; exact hl
  · cases hx : ltV L[i] x with
    | false => rfl
    | true =>
      have := ltV_trans (pairV_lt h hi (show m < i by omega)) hx
      rw [hl] at this
      cases this
theorem hitV_at {L : List VerD} {x : VerD} (h : hitV L x = true) : ∃ hp : posV L x < L.length, sameV L[posV L x] x = true := by
  unfold hitV at h
  by_cases hp : posV L x < L.length
  · rw [List.getElem?_eq_getElem hp] at h
    exact ⟨hp, h⟩
  · rw [List.getElem?_eq_none (by omega)] at h
    cases h
theorem insV_hit {L : List VerD} {x : VerD} (h : hitV L x = true) : insV L x = L.set (posV L x) x := by
  obtain ⟨hp, -⟩ := hitV_at h
  unfold insV
  rw [if_pos h, List.set_eq_take_append_cons_drop, if_pos hp]
theorem insV_new {L : List VerD} {x : VerD} (h : hitV L x = false) : insV L x = L.take (posV L x) ++ x :: L.drop (posV L x) := by
  unfold insV
  rw [h, if_neg (by decide), Nat.add_zero]
theorem ltV_sameK {a b : VerD} (h : a.k = b.k) : ltV a b = decide (a.t < b.t) ∧ sameV a b = (a.t == b.t) := by
  constructor
  · unfold ltV
    rw [h, ltK_irr, Bool.false_or, decide_eq_true rfl, Bool.true_and]
  · unfold sameV
    rw [h, decide_eq_true rfl, Bool.true_and]
    rfl
set_option maxHeartbeats 1000000 in
theorem keyVT_any (x : VerD) (w : World) : Calls Tryz.prog 221 #[vv x] w fun e w' => e = .returned (.int .i64 x.t) ∧ Below w.heap.size w w' := by
  unfold vv
  go_enter Tryz.func221, Tryz.ntmps221
  go_wp2_with fail
  go_ret
  exact ⟨rfl, (Below.refl _ _).alloc (Nat.le_refl _) _⟩
set_option maxRecDepth 100000 in
set_option maxHeartbeats 4000000 in
theorem searchT_any (a : Option Addr) (n c : Nat) (L : List VerD) (x : VerD) (w : World) (hR : VRow w a n L) (hS : L.Pairwise fun a b => ltV a b = true) (hT : ∀ d ∈ L, d.k = x.k) (hn : n ≤ 100000) :
    Calls Tryz.prog 284 #[.slice a n c, .int .i64 x.t, .func (.func 221) #[] #[]] w fun e w' => e = .returned (.tuple #[.int .i64 (posV L x : Nat), .bool (hitV L x)]) ∧ Below w.heap.size w w' := by
  have R := hide hR
  have S := hide hS
  have LT := hide (fun (m : Nat) (hm : m < L.length) => ltV_sameK (hT L[m] (List.getElem_mem hm)))
  have LN := hide hR.1
  clear hR hS hT
  have PL := hide (posV_le L x)
  go_enter Tryz.func284, Tryz.ntmps284
  go_wp2_with fail
  go_loopw [8, 9] (fun p q wr => ∃ (f t : Nat), p = .int .i64 (f : Int) ∧ q = .int .i64 (t : Int) ∧ f ≤ t ∧ t ≤ n ∧ Hid (∀ i (hi : i < L.length), i < f → ltV L[i] x = true) ∧ Hid (∀ i (hi : i < L.length), t ≤ i → ltV L[i] x = false) ∧ Below w.heap.size w wr) (fun p q _ => (intOf q).toNat - (intOf p).toNat)
  case atStart => exact ⟨0, n, rfl, rfl, Nat.zero_le _, Nat.le_refl _, fun i _ h => absurd h (Nat.not_lt_zero _), fun i hi h => absurd hi (by have := unhide LN; omega), Below.refl _ _⟩
  case round =>
    obtain ⟨f, t, rfl, rfl, hft, htn, hlo, hup, hb⟩ := hrel
    by_cases hlt : f < t
    · have R1 := hide ((unhide R).below hb)
      have hdiv : ((t : Int) - (f : Int)) / 2 = (((t - f) / 2 : Nat) : Int) := by omega
      obtain ⟨m, hmm⟩ : ∃ m, m = f + (t - f) / 2 := ⟨_, rfl⟩
      have hm' : m < L.length := by have := unhide LN; omega
      obtain ⟨b, off, rfl, c0, c1, c2, c3⟩ := (unhide R1).2 m hm'
      have hm1 : f ≤ m := by omega
      have hm2 : m < t := by omega
      have HM := hide hmm
      clear hmm
      have KC := hide (keyVT_any L[m])
      have lte := (unhide LT m hm').1
      have LO := hide (fun (h : decide (L[m].t < x.t) = true) => ltV_up (unhide S) hm' (by rw [lte]; exact h))
      have UP := hide (fun (h : decide (L[m].t < x.t) = false) => ltV_dn (unhide S) hm' (by rw [lte]; exact h))
      clear lte
      generalize L[m] = em at *
      obtain ⟨ek, et, ev, eg⟩ := em
      unfold vv at KC
      simp only at c0 c1 c2 c3 KC LO UP
      rw [unhide HM] at c0 c1 c2 c3
      by_cases hl : et < x.t
      · have Z := hide (unhide LO (decide_eq_true hl))
        clear LO UP
        go_wp2_with fail
        refine (unhide KC _).mono ?_
        rintro e w1 ⟨rfl, hb1⟩
        have B1 := hb.trans (hb1.mono hb.size)
        clear hb hb1 c0 c1 c2 c3
        go_wp2_with fail
        go_roundw
        case rel => exact ⟨m + 1, t, by rw [unhide HM]; go_num, rfl, by omega, htn, unhide Z, unhide hup, B1⟩
        case measure => have := unhide HM; simp [intOf]; omega
      · have Z := hide (unhide UP (decide_eq_false hl))
        clear LO UP
        go_wp2_with fail
        refine (unhide KC _).mono ?_
        rintro e w1 ⟨rfl, hb1⟩
        have B1 := hb.trans (hb1.mono hb.size)
        clear hb hb1 c0 c1 c2 c3
        go_wp2_with fail
        go_roundw
        case rel => exact ⟨f, m, rfl, by rw [unhide HM]; go_num, by omega, by omega, unhide hlo, unhide Z, B1⟩
        case measure => have := unhide HM; simp [intOf]; omega
    · obtain rfl : f = t := by omega
      have HP := hide (posV_uni (show f ≤ L.length by have := unhide LN; omega) (unhide hlo) (fun hi => unhide hup f hi (Nat.le_refl _)))
      have FD := hide (show hitV L x = match L[f]? with
        | some e => sameV e x
        | none => false by rw [unhide HP]; rfl)
      by_cases hi : f < L.length
      · have R1 := hide ((unhide R).below hb)
        obtain ⟨b, off, rfl, c0, c1, c2, c3⟩ := (unhide R1).2 f hi
        have FD2 := hide (show (L[f].t == x.t) = hitV L x by rw [unhide FD, List.getElem?_eq_getElem hi]; exact (unhide LT f hi).2.symm)
        have KC := hide (keyVT_any L[f])
        clear FD
        have hfn : f < n := by have := unhide LN; omega
        generalize L[f] = em at *
        obtain ⟨ek, et, ev, eg⟩ := em
        unfold vv at KC
        simp only at c0 c1 c2 c3 KC FD2
        go_wp2_with fail
        refine (unhide KC _).mono ?_
        rintro e w1 ⟨rfl, hb1⟩
        have B1 := hb.trans (hb1.mono hb.size)
        clear hb hb1 c0 c1 c2 c3
        go_wp2_with fail
        go_ret2
        exact ⟨tup_ib (by rw [← unhide HP]) (unhide FD2), B1⟩
      · have FD2 := hide (show false = hitV L x by rw [unhide FD, List.getElem?_eq_none (by omega)])
        clear FD
        have hfn : ¬ f < n := by have := unhide LN; omega
        go_wp2_with fail
        go_ret2
        exact ⟨tup_ib (by rw [← unhide HP]) (unhide FD2), hb⟩
set_option maxRecDepth 100000 in
set_option maxHeartbeats 4000000 in
theorem placedT_any (B : Nat) (a : Option Addr) (n c : Nat) (L : List VerD) (x : VerD) (w : World) (hown : VOwns w B (.slice a n c) L) (hS : L.Pairwise fun a b => ltV a b = true) (hT : ∀ d ∈ L, d.k = x.k) (hn : n ≤ 1000) (hB : B ≤ w.heap.size) :
    Calls Tryz.prog 220 #[.slice a n c, vv x, .func (.func 221) #[] #[]] w fun e w' => ∃ v', e = .returned v' ∧ VOwns w' B v' (insV L x) ∧ v' ≠ .slice none 0 0 ∧ w.grownBy w' (Value.slice a n c).ownBlock ∧ LocV w v' (Value.slice a n c).ownBlock := by
  have HL := hide (show n = L.length from owns_n hown)
  obtain ⟨W1, hW1⟩ : ∃ W1, W1 = w.alloc (.cells #[.string x.k, .int .i64 x.t, .string x.v, .bool x.g] 51) := ⟨_, rfl⟩
  have B0 : Below w.heap.size w W1 := by rw [hW1]; exact (Below.refl _ _).alloc (Nat.le_refl _) _
  have k0 : W1.heap[w.heap.size]? = some (.cells #[.string x.k, .int .i64 x.t, .string x.v, .bool x.g] 51 (0, 0)) := by rw [hW1]; exact heap_alloc_new _ _
  have HO := hide (rb_ownsRow_below hown B0)
  have K0 := hide k0
  have CK := hide (keyVT_any x W1)
  have CS := hide (fun (u : World) (hu : VRow u a n L) => searchT_any a n c L x u hu hS hT (by omega))
  have d0 := (heap_at k0 0).1
  have d1 := (heap_at k0 1).1
  have d2 := (heap_at k0 2).1
  have d3 := (heap_at k0 3).1
  rw [hW1] at d0 d1 d2 d3
  clear hown hS hT k0
  have EX := hide (show (⟨x.k, x.t, x.v, x.g⟩ : VerD) = x from rfl)
  unfold vv at CK ⊢
  go_enter Tryz.func220, Tryz.ntmps220
  go_wp2_with fail
  rw [← hW1]
  clear hW1 d0 d1 d2 d3
  refine (unhide CK).mono ?_
  rintro e w1 ⟨rfl, hb1⟩
  replace HO := hide (rb_ownsRow_below (unhide HO) hb1)
  replace K0 := hide ((hb1.block w.heap.size (blk_lt (unhide K0))).trans (unhide K0))
  replace B0 := B0.trans (hb1.mono B0.size)
  clear hb1 CK
  go_wp2_with fail
  refine (unhide CS w1 (vrow_of_owns (unhide HO))).mono ?_
  rintro e w2 ⟨rfl, hb2⟩
  replace HO := hide (rb_ownsRow_below (unhide HO) hb2)
  replace K0 := hide ((hb2.block w.heap.size (blk_lt (unhide K0))).trans (unhide K0))
  replace B0 := B0.trans (hb2.mono B0.size)
  clear hb2 CS
  have PL := hide (posV_le L x)
  have e0 := (heap_at (unhide K0) 0).1
  have e1 := (heap_at (unhide K0) 1).1
  have e2 := (heap_at (unhide K0) 2).1
  have e3 := (heap_at (unhide K0) 3).1
  by_cases hf : hitV L x = true
  · rw [hf]
    have IH := hide (insV_hit hf)
    obtain ⟨hp, -⟩ := hitV_at hf
    have hne : Value.slice a n c ≠ .slice none 0 0 := fun e => by injection e with _ e _; have := unhide HL; omega
    obtain ⟨g, c2, e, hgB, hg, hc⟩ := owns_form (unhide HO) hne
    injection e with e1' e2' e3'
    clear e2'
    subst e1' e3'
    obtain ⟨t0, t1, t2, t3⟩ := vowns_at (unhide HO) (posV L x) hp
    have f0 := vowns_fz (unhide HO) (posV L x * 4)
    have f1 := vowns_fz (unhide HO) (posV L x * 4 + 1)
    have f2 := vowns_fz (unhide HO) (posV L x * 4 + 2)
    have f3 := vowns_fz (unhide HO) (posV L x * 4 + 3)
    have DN := hide (vowns_store (unhide HO) (posV L x) x)
    have hpn : posV L x < n := by have := unhide HL; omega
    have GR := hide (show w2.grownBy ((((w2.setCell ⟨g, posV L x * 4, none⟩ (.string x.k)).setCell ⟨g, posV L x * 4 + 1, none⟩ (.int .i64 x.t)).setCell ⟨g, posV L x * 4 + 2, none⟩ (.string x.v)).setCell ⟨g, posV L x * 4 + 3, none⟩ (.bool x.g)) (some g) from ⟨rfl, rfl, rfl, by simp [World.setCell], fun i _ hne => (Below.heap_setCell _ _ _ _ (fun e => hne (by rw [e]))).trans ((Below.heap_setCell _ _ _ _ (fun e => hne (by rw [e]))).trans ((Below.heap_setCell _ _ _ _ (fun e => hne (by rw [e]))).trans (Below.heap_setCell _ _ _ _ (fun e => hne (by rw [e])))))⟩)
    clear hne hg hc hgB
    generalize L[posV L x] = tk at *
    generalize posV L x = p at *
    go_wp2_with fail
    go_ret
    exact ⟨.slice (some ⟨g, 0, none⟩) n c, rfl, by rw [unhide IH]; exact unhide DN, by simp, grown_trans (grown_new B0) (unhide GR), .inl rfl⟩
  · have hf : hitV L x = false := by simpa using hf
    rw [hf]
    have B1 : Below w2.heap.size w2 (w2.alloc (.cells #[.string x.k, .int .i64 x.t, .string x.v, .bool x.g] 51)) := (Below.refl _ _).alloc (Nat.le_refl _) _
    have IN := hide (insertV_any B a n c (posV L x) L x w2.heap.size (w2.alloc (.cells #[.string x.k, .int .i64 x.t, .string x.v, .bool x.g] 51)) (rb_ownsRow_below (unhide HO) B1) (unhide HL) (by have := unhide PL; have := unhide HL; omega) (by omega) (by have := B1.size; have := B0.size; omega) (heap_alloc_new w2 _) (fun y hy => by have := ((unhide HO).lt y.block (by rw [hy]; rfl)).2; omega))
    have ST := hide (insV_new hf)
    generalize posV L x = p at *
    generalize x.k = xk at *
    generalize x.t = xt at *
    generalize x.v = xv at *
    generalize x.g = xg at *
    go_wp2_with fail
    refine (unhide IN).mono ?_
    rintro e w5 ⟨v', rfl, hO, hne, hgr⟩
    have F := hide (And.intro hO (And.intro hne hgr))
    clear hO hne hgr
    go_wp2_with fail
    go_ret
    exact ⟨v', rfl, by rw [unhide ST]; exact (unhide F).1, (unhide F).2.1, grown_trans (grown_new (B0.trans (B1.mono B0.size))) (unhide F).2.2.1, by
      rcases (unhide F).2.2.2 with h | ⟨b, hb, h⟩
      · exact .inl h
      · exact .inr ⟨b, by have := B1.size; have := B0.size; omega, h⟩⟩
end Go.Proofs.YtcflepnckjappaaGreat

namespace Go.Proofs.YtcflepnckjappaaGreat
open Go.RowKit

end Go.Proofs.YtcflepnckjappaaGreat

namespace Go.Proofs.YtcflepnckjappaaGreat
open Go.RowKit Go.Maps

theorem vowns_slice2 {w : World} {B : Nat} {v : Value} {ds : List VerD} (h : VOwns w B v ds) : ∃ a c, v = .slice a ds.length c := by
  rcases h.2 with ⟨rfl, hn⟩ | ⟨g, cap, cur, rfl, _⟩
  · exact ⟨none, 0, by rw [hn]⟩
  · exact ⟨_, _, rfl⟩
theorem wpList_lookup_his (w : World) {ops : Array Oper} {rest : List Oper} {o : Oper} {a : Act} {Q : Exit → Act → World → Prop}
    (hg : o.guard = none) (m x : Operand) (hop : o.op = Op.lookup 134 m x false) (b : Nat) (k : ByteArray) (v : Value) (hm : a.eval m = .map (some b)) (hx : a.eval x = .string k)
    (hrun : (Instr.lookup 134 (.map (some b)) (.string k) false).run Tryz.prog w = .ok v w) (hK : wpList Tryz.prog ops Q rest (a.put o.dst v) w) : wpList Tryz.prog ops Q (o :: rest) a w := by
  refine wpList_plain hg fun K' hK' => ?_
  unfold Oper.wp
  simp [execOp, hop, hm, hx, hrun, Result.andThen]
  exact hK' _ _ hK
end Go.Proofs.YtcflepnckjappaaGreat

namespace Go.Proofs.YtcflepnckjappaaGreat
open Go.RowKit

def gx (xs : List Int) (i : Nat) : Int := xs.getD i 0
/-- Two changed for each other. -/
def swL (xs : List Int) (i j : Nat) : List Int := (xs.set i (gx xs j)).set j (gx xs i)
theorem swL_len (xs : List Int) (i j : Nat) : (swL xs i j).length = xs.length := by simp [swL]
theorem swL_at {xs : List Int} {i j k : Nat} (hi : i < xs.length) (hj : j < xs.length) : gx (swL xs i j) k = if k = j then gx xs i else if k = i then gx xs j else gx xs k := by
  unfold swL gx
  simp only [List.getD]
  by_cases h1 : k = j
  · subst h1
    rw [if_pos rfl, List.getElem?_set_self (by simpa using hj)]
    rfl
  · rw [if_neg h1, List.getElem?_set_ne (fun e => h1 e.symm)]
    by_cases h2 : k = i
    · subst h2
      rw [if_pos rfl, List.getElem?_set_self hi]
      rfl
    · rw [if_neg h2, List.getElem?_set_ne (fun e => h2 e.symm)]
def HeapL (xs : List Int) : Prop := ∀ i, 0 < i → i < xs.length → gx xs ((i - 1) / 2) ≤ gx xs i
/-- All but one stand right. -/
def UpL (xs : List Int) (j : Nat) : Prop := (∀ i, 0 < i → i < xs.length → i ≠ j → gx xs ((i - 1) / 2) ≤ gx xs i) ∧ ∀ i, 0 < j → 0 < i → i < xs.length → (i - 1) / 2 = j → gx xs ((j - 1) / 2) ≤ gx xs i
def MinL (xs : List Int) (m : Int) : Prop := (∃ i, i < xs.length ∧ gx xs i = m) ∧ ∀ i, i < xs.length → m ≤ gx xs i
theorem UpL.zero {xs : List Int} (h : UpL xs 0) : HeapL xs := fun i h0 hi => h.1 i h0 hi (by omega)
theorem UpL.stop {xs : List Int} {j : Nat} (h : UpL xs j) (hs : gx xs ((j - 1) / 2) ≤ gx xs j) : HeapL xs := fun i h0 hi => by
  by_cases e : i = j
  · subst e; exact hs
  · exact h.1 i h0 hi e
theorem UpL.step {xs : List Int} {j : Nat} (h : UpL xs j) (hj : j < xs.length) (h0 : 0 < j) (hs : gx xs j < gx xs ((j - 1) / 2)) : UpL (swL xs ((j - 1) / 2) j) ((j - 1) / 2) := by
  obtain ⟨p, hp⟩ : ∃ p, p = (j - 1) / 2 := ⟨_, rfl⟩
  rw [← hp] at hs ⊢
  have hpj : p < j := by omega
  have at' : ∀ k, gx (swL xs p j) k = if k = j then gx xs p else if k = p then gx xs j else gx xs k := fun k => swL_at (by omega) hj
  refine ⟨fun i hi hil hne => ?_, fun i h1 hi hil hip => ?_⟩
  · rw [swL_len] at hil
    rw [at', at']
    by_cases e1 : i = j
    · subst e1
      rw [← hp, if_neg (by omega), if_pos rfl, if_pos rfl]
      omega
    · rw [if_neg e1, if_neg hne]
      have ha := h.1 i hi hil e1
      by_cases e2 : (i - 1) / 2 = j
      · rw [if_pos e2]
        have hb := h.2 i h0 hi hil e2
        rw [← hp] at hb
        exact hb
      · rw [if_neg e2]
        by_cases e3 : (i - 1) / 2 = p
        · rw [if_pos e3]
          rw [e3] at ha
          omega
        · rw [if_neg e3]
          exact ha
  · rw [swL_len] at hil
    rw [at', at', if_neg (by omega), if_neg (by omega)]
    have ha := h.1 p h1 (by omega) (by omega)
    by_cases e1 : i = j
    · rw [if_pos e1]; exact ha
    · rw [if_neg e1, if_neg (by omega)]
      have hb := h.1 i hi hil e1
      rw [hip] at hb
      omega
theorem gx_app {xs : List Int} {x : Int} {i : Nat} : gx (xs ++ [x]) i = if i < xs.length then gx xs i else if i = xs.length then x else 0 := by
  unfold gx
  simp only [List.getD]
  by_cases h : i < xs.length
  · rw [if_pos h, List.getElem?_append_left h]
  · rw [if_neg h, List.getElem?_append_right (by omega)]
    by_cases e : i = xs.length
    · rw [if_pos e, e, Nat.sub_self]; rfl
    · rw [if_neg e, List.getElem?_eq_none (by rw [List.length_singleton]; omega)]; rfl
theorem HeapL.app {xs : List Int} (h : HeapL xs) (x : Int) : UpL (xs ++ [x]) xs.length := by
  refine ⟨fun i h0 hi hne => ?_, fun i _ h0 hi hip => ?_⟩
  · rw [List.length_append, List.length_singleton] at hi
    rw [gx_app, gx_app, if_pos (by omega), if_pos (by omega)]
    exact h i h0 (by omega)
  · rw [List.length_append, List.length_singleton] at hi
    omega
theorem MinL.app {xs : List Int} {m : Int} (h : MinL xs m) (x : Int) : MinL (xs ++ [x]) (min m x) := by
  obtain ⟨⟨k, hk, e⟩, h2⟩ := h
  constructor
  · by_cases hx : m ≤ x
    · exact ⟨k, by rw [List.length_append]; omega, by rw [gx_app, if_pos hk]; omega⟩
    · exact ⟨xs.length, by simp, by rw [gx_app, if_neg (by omega), if_pos rfl]; omega⟩
  · intro i hi
    rw [List.length_append, List.length_singleton] at hi
    rw [gx_app]
    by_cases hl : i < xs.length
    · rw [if_pos hl]; have := h2 i hl; omega
    · rw [if_neg hl, if_pos (by omega)]; omega
end Go.Proofs.YtcflepnckjappaaGreat

namespace Go.Proofs.YtcflepnckjappaaGreat
open Go.RowKit

theorem ltV_irr (a : VerD) : ltV a a = false := by unfold ltV; rw [ltK_irr]; simp
/-- Two lists that rise and have the same versions are one. -/
theorem rise_one : ∀ (l m : List VerD), (l.Pairwise fun a b => ltV a b = true) → (m.Pairwise fun a b => ltV a b = true) → (∀ x, x ∈ l ↔ x ∈ m) → l = m
  | [], m, _, _, h => by
    cases m with
    | nil => rfl
    | cons y s => exact absurd ((h y).2 (List.mem_cons_self ..)) List.not_mem_nil
  | x :: r, [], _, _, h => absurd ((h x).1 (List.mem_cons_self ..)) List.not_mem_nil
  | x :: r, y :: s, hl, hm, h => by
    obtain ⟨hx, hr⟩ := List.pairwise_cons.1 hl
    obtain ⟨hy, hs⟩ := List.pairwise_cons.1 hm
    have e : x = y := by
      rcases List.mem_cons.1 ((h x).1 (List.mem_cons_self ..)) with e | e
      · exact e
      · rcases List.mem_cons.1 ((h y).2 (List.mem_cons_self ..)) with e2 | e2
        · exact e2.symm
        · have := ltV_trans (hx y e2) (hy x e)
          rw [ltV_irr] at this
          exact absurd this (by decide)
    subst e
    have hrs := rise_one r s hr hs fun z => by
      constructor
      · intro hz
        rcases List.mem_cons.1 ((h z).1 (List.mem_cons_of_mem _ hz)) with e | e
        · subst e
          have := hx z hz
          rw [ltV_irr] at this
          exact absurd this (by decide)
        · exact e
      · intro hz
        rcases List.mem_cons.1 ((h z).2 (List.mem_cons_of_mem _ hz)) with e | e
        · subst e
          have := hy z hz
          rw [ltV_irr] at this
          exact absurd this (by decide)
        · exact e
    rw [hrs]
theorem grp_mem {ds : List VerD} {k : ByteArray} {x : VerD} : x ∈ grp ds k ↔ x ∈ ds ∧ x.k = k := by
  unfold grp
  rw [List.mem_filter, decide_eq_true_eq]
theorem grp_sub (ds : List VerD) (k : ByteArray) : (grp ds k).Sublist ds := List.filter_sublist
theorem dkeys_mem {ds : List VerD} {k : ByteArray} : k ∈ dkeys ds ↔ ∃ x ∈ ds, x.k = k := by
  unfold dkeys
  rw [dk_mem ds k _ (Nat.le_refl _)]
  constructor
  · rintro ⟨i, hi, _, e⟩
    exact ⟨_, List.getElem_mem hi, e⟩
  · rintro ⟨x, hx, e⟩
    obtain ⟨i, hi, rfl⟩ := List.getElem_of_mem hx
    exact ⟨i, hi, hi, e⟩
/-- A right list is what its keys have, one behind the other. -/
theorem list_flat {ds : List VerD} (ok : okVs ds = true) : (dkeys ds).flatMap (grp ds) = ds := by
  refine rise_one _ _ (List.pairwise_flatMap.2 ⟨fun k _ => (okVs_pair ok).sublist (grp_sub ds k), ?_⟩) (okVs_pair ok) fun x => ?_
  · refine (dk_rise ok _ (Nat.le_refl _)).imp fun {a b} h x hx y hy => ?_
    unfold ltV
    rw [(grp_mem.1 hx).2, (grp_mem.1 hy).2, h]
    rfl
  · rw [List.mem_flatMap]
    constructor
    · rintro ⟨k, _, hx⟩
      exact (grp_mem.1 hx).1
    · intro hx
      exact ⟨x.k, dkeys_mem.2 ⟨x, hx, rfl⟩, grp_mem.2 ⟨hx, rfl⟩⟩
end Go.Proofs.YtcflepnckjappaaGreat

namespace Go.Proofs.YtcflepnckjappaaGreat
open Go.RowKit Go.Maps Go.Sort

theorem HMap.congr {w : World} {m N : Nat} {f g : ByteArray → Value} (h : HMap w m N f) (e : ∀ k : ByteArray, k.size ≤ maxLen → f k = g k) : HMap w m N g := by
  obtain ⟨D, h1, h2, h3⟩ := h
  exact ⟨D, h1, fun k hk => by rw [← e k hk]; exact h2 k hk, fun k hk => by rw [← e k hk]; exact h3 k hk⟩
/-- A history that is only read. -/
structure HisRd (w : World) (m N : Nat) (f : ByteArray → Value) (ds : List VerD) : Prop where
  map : HMap w m N f
  row : ∀ k, ∃ a c, f k = .slice a (grp ds k).length c ∧ VRow w a (grp ds k).length (grp ds k) ∧ (grp ds k).length ≤ c
  no : ∀ k, grp ds k = [] → f k = .slice none 0 0
theorem HisRd.below {w w' : World} {m N : Nat} {f : ByteArray → Value} {ds : List VerD} (h : HisRd w m N f ds) (hb : Below w.heap.size w w') : HisRd w' m N f ds :=
  ⟨h.map.block (hb.block m h.map.lt), fun k => by obtain ⟨a, c, e, r, hc⟩ := h.row k; exact ⟨a, c, e, r.below hb, hc⟩, h.no⟩
theorem HisAt.rd {w : World} {m N B : Nat} {f : ByteArray → Value} {ds : List VerD} (h : HisAt w m N B f ds) : HisRd w m N f ds :=
  ⟨h.map, fun k => by
    obtain ⟨a, c, e⟩ := vowns_slice2 (h.own k)
    have ho := h.own k
    rw [e] at ho
    refine ⟨a, c, e, vrow_of_owns ho, ?_⟩
    rcases ho.2 with ⟨e2, h0⟩ | ⟨g, cap, cur, e2, _, _, hc, _⟩
    · omega
    · injection e2 with _ _ e2; omega, h.no⟩
end Go.Proofs.YtcflepnckjappaaGreat
