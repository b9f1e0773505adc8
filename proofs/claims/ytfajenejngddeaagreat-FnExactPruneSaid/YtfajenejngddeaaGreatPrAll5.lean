/-
  VeK, VeI, PuB, PageN, PgC, PgT, PgG, VcG, ScG, OsA, FcG, LdA, PuC, IntO, HpA, HpB, HpC, HpD, PrC, DeF, PuD, PuE, PrLaw in one.
-/
import Derived.Test.YtfajenejngddeaaGreatPrAll1
import Derived.Test.YtfajenejngddeaaGreatPrAll3
import Derived.Test.YtfajenejngddeaaGreatIter
import Derived.Laws.AppendOwnNone
import Derived.Lib.AppendZeros
import Derived.Test.YtfajenejngddeaaGreatSsB
import Derived.Test.YtfajenejngddeaaGreatPrAll2
import Derived.Test.YtfajenejngddeaaGreatRowR
import Derived.Test.YtfajenejngddeaaGreatOwn
import Derived.Test.YtfajenejngddeaaGreatTakes
import Derived.Deep.RegionLaw
import Derived.Deep.Cut
import Derived.Deep.RegionWith
namespace Go.Proofs.YtfajenejngddeaaGreat
open Go.RowKit Go.Maps Go.Sort

theorem enc_map (ds : List VerD) : (dkB ds).map encStr = (dkeys ds).map Value.string := by
  unfold dkB
  rw [List.map_map]
  refine List.map_congr_left fun k _ => ?_
  simp [encStr]
/-- A slice of texts that the call owns from block B on. -/
abbrev StrOwns (w : World) (B : Nat) (v : Value) (ks : List ByteArray) : Prop := w.ownsRow B 9 1 v ks.length (ks.map Value.string)
theorem strowns_mono {w : World} {B C : Nat} {v : Value} {ks : List ByteArray} (h : StrOwns w B v ks) (hc : C ≤ B) : StrOwns w C v ks := by
  refine ⟨h.1, ?_⟩
  rcases h.2 with h | ⟨g, cap, cur, e, hb, r⟩
  · exact .inl h
  · exact .inr ⟨g, cap, cur, e, Nat.le_trans hc hb, r⟩
end Go.Proofs.YtfajenejngddeaaGreat

namespace Go.Proofs.YtfajenejngddeaaGreat
open Go.RowKit Go.Maps

/-- A slice of texts as it reads. -/
def StrRow (w : World) (a : Option Addr) (n : Nat) (ks : List ByteArray) : Prop :=
  ks.length = n ∧ ∀ i (hi : i < ks.length), ∃ b off, a = some ⟨b, off, none⟩ ∧ w.cell? ⟨b, off + i, none⟩ = some (.string ks[i])
theorem StrRow.below {w w' : World} {a : Option Addr} {n : Nat} {ks : List ByteArray} (h : StrRow w a n ks) (hb : Below w.heap.size w w') : StrRow w' a n ks := by
  refine ⟨h.1, fun i hi => ?_⟩
  obtain ⟨b, off, e, c⟩ := h.2 i hi
  exact ⟨b, off, e, (hb.cell (p := ⟨b, off + i, none⟩) (cell_lt c)).trans c⟩
theorem strrow_of_owns {w : World} {B : Nat} {v : Value} {ks : List ByteArray} (h : StrOwns w B v ks) : ∃ a c, v = .slice a ks.length c ∧ StrRow w a ks.length ks := by
  have h' := h
  rcases h.2 with ⟨rfl, h0⟩ | ⟨g, cap, cur, rfl, _⟩
  · exact ⟨none, 0, by rw [h0], rfl, fun i hi => absurd hi (by omega)⟩
  · refine ⟨_, cap, rfl, rfl, fun i hi => ⟨g, 0, rfl, ?_⟩⟩
    rw [Nat.zero_add, h'.cellAt i (by omega)]
    simp [hi]
end Go.Proofs.YtfajenejngddeaaGreat

namespace Go.Proofs.YtfajenejngddeaaGreat
open Go.RowKit Go.Maps Go.Sort

theorem hisr_perm {w : World} {m N : Nat} {f : ByteArray → Value} {ds : List VerD} (h : HisRd w m N f ds) (ok : okVs ds = true) :
    ∃ D : DataW Value, w.ownsMap Tryz.prog 9 hmElem m N D ∧ (dkB ds).Perm (strKeys D) := by
  obtain ⟨D, h1, _, h3⟩ := h.map
  refine ⟨D, h1, Collected.perm (left := fun _ => false) ⟨dkB_nodup ok, fun x => ?_⟩ h1 (string_keyed Tryz.underlying9) Tryz.underlying9 (fun _ => rfl)⟩
  have hk : ∀ k : ByteArray, f k ≠ .slice none 0 0 ↔ ∃ i, ∃ h : i < ds.length, ds[i].k = k := fun k => by
    rw [← grp_ne]
    constructor
    · intro h1 h2
      exact h1 (h.no k h2)
    · intro h1 h2
      obtain ⟨a, c, e, _⟩ := h.row k
      rw [h2] at e
      injection e with _ e _
      exact h1 (List.eq_nil_of_length_eq_zero e.symm)
  constructor
  · intro hx
    obtain ⟨i, hi, rfl⟩ := (dkB_mem x).1 hx
    refine ⟨(h3 ds[i].k ?_).2 ((hk _).2 ⟨i, hi, rfl⟩), rfl⟩
    have := verK_small (okVs_ver ok hi)
    unfold maxLen
    omega
  · rintro ⟨hx, _⟩
    have hl : x.length ≤ maxLen := by
      obtain ⟨es, rfl, hko⟩ := h1.keysOf
      rw [has_eq, List.any_eq_true] at hx
      obtain ⟨p, hp, hs⟩ := hx
      obtain ⟨v, hv⟩ := hko p hp
      obtain ⟨y, _, hy, hl⟩ := Maps.keyOf_str Tryz.underlying9 hv
      rw [hy] at hs
      have : y = x := by simpa [Lit.sameKey] using hs
      rw [← this]
      exact hl
    have e := (h3 ⟨x.toArray⟩ (by show x.toArray.size ≤ _; simpa using hl)).1 (by simpa using hx)
    obtain ⟨i, hi, e⟩ := (hk _).1 e
    exact (dkB_mem x).2 ⟨i, hi, by rw [e]⟩
set_option maxRecDepth 100000 in
set_option maxHeartbeats 4000000 in
theorem keysR_any (m N : Nat) (f : ByteArray → Value) (ds : List VerD) (w : World) (hH : HisRd w m N f ds) (ok : okVs ds = true) (hN : N ≤ 100000) :
    Calls Tryz.prog 28 #[.map (some m)] w fun e w' => ∃ v, e = .returned v ∧ StrOwns w' w.heap.size v (dkeys ds) ∧ Below w.heap.size w w' := by
  obtain ⟨D, h1, hp⟩ := hisr_perm hH ok
  have hsz := h1.size_le
  have KS := hide (fun mb W => callsIn_wide.1 (Tryz.maps_Keys_69 mb W))
  have SO := hide (callsIn_wide.1 (Tryz.slices_Sorted_keys_68_69 m N D hmElem w h1 (by unfold maxLen; omega) (by omega)))
  have FIN := hide (show ∀ (ss : List (List UInt8)), ss.Perm (strKeys D) → ss.length = (dkeys ds).length ∧ (ss.mergeSort (fun x y => decide (x ≤ y))).map encStr = (dkeys ds).map Value.string from fun ss h => by
    have h2 := h.trans hp.symm
    exact ⟨by rw [h2.length_eq]; simp [dkB], by rw [dkB_sort ok h2, enc_map]⟩)
  have bA : Below w.heap.size w (w.alloc (.cells #[.map (some m)] 71)) := (Below.refl _ _).alloc (Nat.le_refl _) _
  clear hH h1 hp
  go_enter Tryz.func28, Tryz.ntmps28
  go_wp2_with fail
  refine (unhide KS _ _).mono ?_
  rintro e w' ⟨rfl, hw⟩
  subst w'
  go_wp2_with fail
  refine (unhide SO).mono ?_
  rintro e w' ⟨v, ss, rfl, hS, hrow, hnil, hb⟩
  obtain ⟨e1, e2⟩ := unhide FIN ss hS
  rw [e1, e2] at hrow
  have hO := hide (strowns_mono hrow bA.size)
  have hB := hide (bA.trans (hb.mono bA.size))
  clear hrow hb hnil e1 e2 FIN SO KS bA
  go_wp2_with fail
  go_ret
  exact ⟨v, rfl, unhide hO, unhide hB⟩
theorem pu_wpApp {P : Program} {ops : Array Oper} {rest : List Oper} {o : Oper} {a : Act} {w : World} {Q : Exit → Act → World → Prop}
    (hg : o.guard = none) (s x : Operand) (t : TypeId) (hop : o.op = Op.call { callee := Callee.builtin Builtin.append, args := #[s, x], argTypes := #[t, t] })
    (vs vx v' : Value) (w' : World) (hs : a.eval s = vs) (hx : a.eval x = vx) (hrun : (Builtin.append_ #[t, t] o.type #[vs, vx]).run P w = .ok v' w') (h : wpList P ops Q rest (a.put o.dst v') w') :
    wpList P ops Q (o :: rest) a w :=
  wpList_plain hg fun _ hK => by
    unfold Oper.wp
    simp [execOp, hop, resolve, invoke, builtin, hs, hx, hrun, Result.andThen]
    exact hK _ _ h
/-- Some versions put behind a row of the call's own, be it nil. -/
theorem v_appN {w : World} {B : Nat} {v : Value} {ds es : List VerD} {A : Addr} {m c : Nat} (ty : TypeId) (ho : VOwns w B v ds) (hr : VRow w (some A) m es) (hm : 0 < m) (hz : ds.length + m ≤ 2000000) (hB : B ≤ w.heap.size) :
    ∃ v' w', (Builtin.append_ #[23, 23] ty #[v, .slice (some A) m c]).run Tryz.prog w = .ok v' w' ∧ VOwns w' B v' (ds ++ es) ∧ w.grownBy w' v.ownBlock := by
  obtain ⟨i0, hi0, hz0, hz1, hz2⟩ := info_parts Tryz.infoVersion
  obtain ⟨v', w', hrun, ho', hg, -, -⟩ := app_at (P := Tryz.prog) (w := w) (B := B) 23 ty 39 Tryz.underlying23 hi0 hz0 hz1 hz2 rfl (by decide) ho A m c (vcs es) (by rw [vcs_len, hr.1]) (vrow_src hr) (vcs_one _) (by unfold maxLen; omega) (by omega) hB (fun _ => hm)
  refine ⟨v', w', hrun, ?_, hg⟩
  unfold VOwns
  rw [List.length_append, vcs_append, hr.1]
  exact ho'
set_option maxRecDepth 100000 in
set_option maxHeartbeats 4000000 in
theorem listR_any (m N : Nat) (f : ByteArray → Value) (ds : List VerD) (w : World) (hH : HisRd w m N f ds) (ok : okVs ds = true) (hN : N ≤ 100000) (hds : ds.length ≤ 100000) :
    Calls Tryz.prog 84 #[.map (some m)] w fun e w' => ∃ v, e = .returned v ∧ VOwns w' w.heap.size v ds ∧ Below w.heap.size w w' := by
  have KS := hide (keysR_any m N f ds w hH ok hN)
  have HB := hide (fun (u : World) (hb : Below w.heap.size w u) => hH.below hb)
  have FL := hide (list_flat ok)
  have KM := hide (show ∀ k ∈ dkeys ds, grp ds k ≠ [] ∧ k.size ≤ maxLen from fun k hk => by
    obtain ⟨x, hx, e⟩ := dkeys_mem.1 hk
    refine ⟨fun e2 => ?_, ?_⟩
    · have := grp_mem.2 ⟨hx, e⟩
      rw [e2] at this
      exact absurd this List.not_mem_nil
    · have := verK_small (((okVs_iff ds).1 ok).1 x hx)
      rw [← e]
      unfold maxLen
      omega)
  have LE := hide (show ∀ j, (((dkeys ds).take j).flatMap (grp ds)).length ≤ ds.length ∧ ∀ h : j < (dkeys ds).length, (((dkeys ds).take j).flatMap (grp ds)).length + (grp ds (dkeys ds)[j]).length ≤ ds.length from fun j => by
    have h1 := congrArg List.length (list_flat ok)
    rw [← List.take_append_drop j (dkeys ds), List.flatMap_append, List.length_append] at h1
    refine ⟨by omega, fun h => ?_⟩
    rw [List.drop_eq_getElem_cons h, List.flatMap_cons, List.length_append] at h1
    omega)
  clear hH
  go_enter Tryz.func84, Tryz.ntmps84
  go_wp2_with fail
  refine (unhide KS).mono ?_
  rintro e w1 ⟨kv, rfl, hO, hb1⟩
  obtain ⟨ka, kc, rfl, hr⟩ := strrow_of_owns hO
  have hkl : (dkeys ds).length ≤ 100000 := by
    have := dkTo_len ds ds.length
    unfold dkeys
    omega
  have R := hide hr
  have B1 := hide hb1
  have N0 := hide (show VOwns w1 w1.heap.size (.slice none 0 0) (((dkeys ds).take 0).flatMap (grp ds)) from World.ownsRow_nil _ _ _ _)
  clear hO hr hb1 KS
  generalize dkeys ds = ks at *
  obtain ⟨n, hn⟩ : ∃ n, n = ks.length := ⟨_, rfl⟩
  have HN := hide hn
  rw [← hn] at hkl ⊢
  rw [← hn] at R
  clear hn
  go_wp2_with fail
  go_loopw [3, 9] (fun v iv wr => ∃ (j : Nat) (v0 : Value), v0 = v ∧ iv = .int .i64 (j : Int) ∧ j ≤ n ∧ Hid (VOwns wr w1.heap.size v0 ((ks.take j).flatMap (grp ds))) ∧ Hid (Below w1.heap.size w1 wr)) (fun _ iv _ => n - (intOf iv).toNat)
  case atStart => exact ⟨0, _, rfl, rfl, Nat.zero_le _, N0, hide (Below.refl _ _)⟩
  case round =>
    clear N0
    obtain ⟨j, v0, rfl, rfl, hj, hV, hB⟩ := hrel
    by_cases hlt : j < n
    case neg =>
      obtain rfl : j = n := by omega
      have RES := hide (show VOwns wr w.heap.size v0 ds by
        have h1 := unhide hV
        rw [List.take_of_length_le (by rw [unhide HN]; exact Nat.le_refl _), unhide FL] at h1
        exact gd_base h1 (unhide B1).size)
      have BE := hide ((unhide B1).trans ((unhide hB).mono (unhide B1).size))
      go_wp2_with fail
      go_ret
      exact ⟨_, rfl, unhide RES, unhide BE⟩
    have hj2 : j < ks.length := by rw [← unhide HN]; exact hlt
    have hjn : (j : Int) < (n : Int) := by omega
    obtain ⟨b, off, ea, d0⟩ := ((unhide R).below (unhide hB)).2 j hj2
    subst ea
    obtain ⟨hne, hks⟩ := unhide KM ks[j] (List.getElem_mem hj2)
    have HR := unhide HB wr ((unhide B1).trans ((unhide hB).mono (unhide B1).size))
    obtain ⟨a, c, e1, r1, -⟩ := HR.row ks[j]
    have hL0 : 0 < (grp ds ks[j]).length := by
      cases hg : grp ds ks[j] with
      | nil => exact absurd hg hne
      | cons x r => simp
    obtain ⟨b2, off2, ea2, -⟩ := r1.2 0 hL0
    subst ea2
    have LK := HR.map.lookup hks
    rw [e1] at LK
    have hle := (unhide LE j).2 hj2
    obtain ⟨v2, w2, hrun, ho2, hg2⟩ := v_appN (c := c) 23 (unhide hV) r1 hL0 (by omega) (unhide hB).size
    have V2 := hide (show VOwns w2 w1.heap.size v2 ((ks.take (j + 1)).flatMap (grp ds)) by
      rw [takeG_snoc ks j hj2, List.flatMap_append]
      simpa using ho2)
    have B2 := hide ((unhide hB).grown hg2 (unhide hB).size (fun k hk => ((unhide hV).lt k hk).1))
    clear HR r1 e1 ho2 hg2 hle hne hV
    generalize ks[j] = key at *
    generalize grp ds key = L at *
    go_wp2_with (first | (at_lookup; refine wpList_lookup_his _ rfl (.tmp 14) (.tmp 15) rfl m key _ rfl rfl LK ?_) | (at_builtin; refine pu_wpApp rfl (.tmp 13) (.tmp 16) 23 rfl _ _ v2 w2 rfl rfl hrun ?_))
    go_roundw
    case rel => exact ⟨j + 1, v2, rfl, by go_num, by omega, V2, B2⟩
    case measure => simp [intOf]; omega
end Go.Proofs.YtfajenejngddeaaGreat

namespace Go.Proofs.YtfajenejngddeaaGreat
open Go.RowKit

/-- An append whose run is known. -/
theorem wpAppE {P : Program} {ops : Array Oper} {rest : List Oper} {o : Oper} {a : Act} {w : World} {Q : Exit → Act → World → Prop}
    (hg : o.guard = none) (s x : Operand) (t : TypeId) (hop : o.op = Op.call { callee := Callee.builtin Builtin.append, args := #[s, x], argTypes := #[t, t] })
    (vs vx v' : Value) (w' : World) (hs : a.eval s = vs) (hx : a.eval x = vx) (hrun : (Builtin.append_ #[t, t] o.type #[vs, vx]).run P w = .ok v' w') (h : wpList P ops Q rest (a.put o.dst v') w') :
    wpList P ops Q (o :: rest) a w :=
  wpList_plain hg fun _ hK => by
    unfold Oper.wp
    simp [execOp, hop, resolve, invoke, builtin, hs, hx, hrun, Result.andThen]
    exact hK _ _ h
end Go.Proofs.YtfajenejngddeaaGreat

namespace Go.Proofs.YtfajenejngddeaaGreat
open Go.RowKit

end Go.Proofs.YtfajenejngddeaaGreat

namespace Go.Proofs.YtfajenejngddeaaGreat
open Go.RowKit

end Go.Proofs.YtfajenejngddeaaGreat

namespace Go.Proofs.YtfajenejngddeaaGreat
open Go.RowKit

/-- What slices.Grow makes of nil: a row with room, and nothing in it. -/
theorem grow_owns {w : World} {B e size n : Nat} {z : Value} (hz : z.cells.size = size) (hn : n ≤ maxLen) (hB : B ≤ w.heap.size) : (w.drew.alloc (.cells (Builtin.zeroCells z.cells n ++ Builtin.zeroCells z.cells (grownCap w n 0 e - n)) e)).ownsRow B e size (.slice (some ⟨w.heap.size, 0, none⟩) 0 (grownCap w n 0 e)) 0 [] := by
  have hge := grownCap_ge w n 0 e
  have hcm := grownCap_le_maxLen w n 0 e hn
  refine ⟨by simp, .inr ⟨w.heap.size, _, _, rfl, hB, heap_alloc_new w.drew _, Nat.zero_le _, hcm, ?_, by simp⟩⟩
  rw [Array.size_append, size_zeroCells, size_zeroCells, hz, ← Nat.add_mul]
  congr 1
  omega

end Go.Proofs.YtfajenejngddeaaGreat

namespace Go.Proofs.YtfajenejngddeaaGreat
open Go.RowKit

/-- append(a row of the call's own, a list...), nil or not. -/
theorem run_appV {w : World} {B : Nat} {v : Value} {a : Option Addr} {n c : Nat} {xs ds : List VerD} (ty : TypeId) (hO : VOwns w B v xs) (hR : VRow w a n ds) (hx : xs.length ≤ 2000000) (hn : n ≤ 2000000) (hc : a = none → c = 0) (hB : B ≤ w.heap.size) :
    ∃ v' w', (Builtin.append_ #[23, 23] ty #[v, .slice a n c]).run Tryz.prog w = .ok v' w' ∧ VOwns w' B v' (xs ++ ds) ∧ w.grownBy w' v.ownBlock ∧ (v ≠ .slice none 0 0 → v' ≠ .slice none 0 0) := by
  obtain ⟨i0, hi0, hz0, hz1, hz2⟩ := info_parts Tryz.infoVersion
  cases a with
  | none =>
    obtain rfl := hc rfl
    obtain ⟨rfl, rfl⟩ := vrow_none hR
    exact ⟨v, w, run_append_owned_none (P := Tryz.prog) w B 23 ty 39 i0 4 Tryz.underlying23 hi0 _ _ _ hO, by rw [List.append_nil]; exact hO, ⟨rfl, rfl, rfl, Nat.le_refl _, fun _ _ _ => rfl⟩, fun h => h⟩
  | some ad =>
    obtain ⟨v', w', hr, ho, hg, hv⟩ := run_append_own (P := Tryz.prog) w B 23 ty 39 i0 (.agg #[.string ByteArray.empty, .int .i64 0, .string ByteArray.empty, .bool false]) 4 48 Tryz.underlying23 hi0 hz0 hz1 hz2 rfl (by decide) _ _ _ hO ad n c (vcs ds) (by rw [vcs_len, hR.1]) (vrow_src hR) (vcs_one _) (by unfold maxLen; omega) (by omega) hB
    refine ⟨v', w', hr, ?_, hg, fun h h' => h (hv.1 h').1⟩
    unfold VOwns
    rw [vcs_append, List.length_append, hR.1]
    exact ho
set_option maxRecDepth 100000 in
set_option maxHeartbeats 4000000 in
theorem growV (n : Nat) (w : World) (hn : n ≤ 2000000) :
    Calls Tryz.prog 124 #[.slice none 0 0, .int .i64 (n : Int)] w fun e w' => ∃ v, e = .returned v ∧ VOwns w' w.heap.size v [] ∧ (0 < n → v ≠ .slice none 0 0) ∧ Below w.heap.size w w' := by
  obtain ⟨i0, hi0, hz0, hz1, hz2⟩ := info_parts Tryz.infoVersion
  by_cases h0 : 0 < n
  · have hr := Lib.run_append_nil_zeros (P := Tryz.prog) w 23 3 23 39 i0 (.agg #[.string ByteArray.empty, .int .i64 0, .string ByteArray.empty, .bool false]) .i64 .i64 Tryz.underlying23 Tryz.underlying3 hi0 hz0 n h0 (by omega) (by omega) (by rw [hz2]; omega)
    have HO := hide (grow_owns (w := w) (B := w.heap.size) (e := 39) (size := 4) (n := n) (z := .agg #[.string ByteArray.empty, .int .i64 0, .string ByteArray.empty, .bool false]) rfl (by unfold maxLen; omega) (Nat.le_refl _))
    have HB := hide (show Below w.heap.size w _ from ((Below.refl w.heap.size w).drew.alloc (Nat.le_refl _) (.cells (Builtin.zeroCells (Value.cells (.agg #[.string ByteArray.empty, .int .i64 0, .string ByteArray.empty, .bool false])) n ++ Builtin.zeroCells (Value.cells (.agg #[.string ByteArray.empty, .int .i64 0, .string ByteArray.empty, .bool false])) (grownCap w n 0 39 - n)) 39)))
    obtain ⟨W, hW⟩ : ∃ W, W = w.drew.alloc (.cells (Builtin.zeroCells (Value.cells (.agg #[.string ByteArray.empty, .int .i64 0, .string ByteArray.empty, .bool false])) n ++ Builtin.zeroCells (Value.cells (.agg #[.string ByteArray.empty, .int .i64 0, .string ByteArray.empty, .bool false])) (grownCap w n 0 39 - n)) 39) := ⟨_, rfl⟩
    rw [← hW] at hr HO HB
    generalize grownCap w n 0 39 = cap at *
    clear hW
    go_enter Tryz.func124, Tryz.ntmps124
    go_wp2_with (at_builtin; refine Lib.wpList_append_run _ rfl _ _ 23 3 rfl _ _ rfl rfl _ W hr ?_)
    go_ret
    exact ⟨.slice (some ⟨w.heap.size, 0, none⟩) 0 cap, rfl, unhide HO, fun _ h => (by cases h), unhide HB⟩
  · obtain rfl : n = 0 := by omega
    go_enter Tryz.func124, Tryz.ntmps124
    go_wp2_with fail
    go_ret
    exact ⟨.slice none 0 0, rfl, World.ownsRow_nil _ _ _ _, fun h => absurd h (by omega), Below.refl _ _⟩
set_option maxRecDepth 100000 in
set_option maxHeartbeats 4000000 in
theorem concatV1 (ob : Nat) (a : Option Addr) (n c : Nat) (es : List VerD) (w : World) (hc : w.cell? ⟨ob, 0, none⟩ = some (.slice a n c)) (hR : VRow w a n es) (hcn : a = none → c = 0) (hn : n ≤ 1100000) :
    Calls Tryz.prog 114 #[.slice (some ⟨ob, 0, none⟩) 1 1] w fun e w' => ∃ v, e = .returned v ∧ VOwns w' w.heap.size v es ∧ Below w.heap.size w w' := by
  have R := hide hR
  have hob := cell_lt hc
  clear hR
  go_enter Tryz.func114, Tryz.ntmps114
  go_wp2_with fail
  refine wp_loop_rounds 2 ?_
  rw [rounds_succ]
  go_wp2_with fail
  rw [rounds_succ]
  go_wp2_with fail
  refine (growV n w (by omega)).mono ?_
  rintro e w1 ⟨v1, rfl, hO, _, hb⟩
  obtain ⟨v2, w2, hr, hO2, hg2, _⟩ := run_appV (c := c) 23 hO ((unhide R).below hb) (by simp) (by omega) hcn hb.size
  have hc1 := (hb.cell (p := ⟨ob, 0, none⟩) hob).trans hc
  have B2 := hide (hb.trans ((Below.refl w.heap.size w1).grown hg2 hb.size (fun k hk => (hO.lt k hk).1)))
  have O2 := hide (show VOwns w2 w.heap.size v2 es from hO2)
  clear hO hO2 hg2 hb R
  go_wp2_with fail
  refine wp_loop_rounds 2 ?_
  rw [rounds_succ]
  go_wp2_with (at_builtin; refine wpAppE rfl _ _ 23 rfl _ _ v2 w2 rfl rfl hr ?_)
  rw [rounds_succ]
  go_wp2_with fail
  go_ret
  exact ⟨v2, rfl, unhide O2, unhide B2⟩
end Go.Proofs.YtfajenejngddeaaGreat

namespace Go.Proofs.YtfajenejngddeaaGreat
open Go.RowKit

theorem srow_src {w : World} {ad : Addr} {n : Nat} {ds : List SesR} (h : SRow w (some ad) n ds) : ∀ t u, (scs ds)[t]? = some u → w.cell? (ad.add t) = some u := by
  intro t u hu
  have hl : t < ds.length * 3 := by
    have := (List.getElem?_eq_some_iff.1 hu).1
    rwa [scs_len] at this
  obtain ⟨m, r, hr, rfl⟩ : ∃ m r, r < 3 ∧ t = m * 3 + r := ⟨t / 3, t % 3, Nat.mod_lt _ (by omega), by omega⟩
  have hm : m < ds.length := by omega
  obtain ⟨b, off, e, c0, c1, c2⟩ := h.2 m hm
  injection e with e
  subst e
  rw [Addr.add_lit]
  obtain ⟨a0, a1, a2⟩ := scs_at ds m hm
  match r, hr with
  | 0, _ => rw [Nat.add_zero] at hu ⊢; rw [a0] at hu; rw [c0, ← hu]
  | 1, _ => rw [a1] at hu; rw [← Nat.add_assoc, c1, ← hu]
  | 2, _ => rw [a2] at hu; rw [← Nat.add_assoc, c2, ← hu]
theorem srow_none {w : World} {n : Nat} {ds : List SesR} (h : SRow w none n ds) : n = 0 ∧ ds = [] := by
  have h0 : ds.length = 0 := by
    rcases Nat.eq_zero_or_pos ds.length with h' | h'
    · exact h'
    · obtain ⟨_, _, e, _⟩ := h.2 0 h'; cases e
  exact ⟨by have := h.1; omega, List.eq_nil_of_length_eq_zero h0⟩
/-- append(a row of the call's own, a list...), nil or not. -/
theorem run_appS {w : World} {B : Nat} {v : Value} {a : Option Addr} {n c : Nat} {xs ds : List SesR} (ty : TypeId) (hO : SOwns w B v xs) (hR : SRow w a n ds) (hx : xs.length ≤ 2000000) (hn : n ≤ 2000000) (hc : a = none → c = 0) (hB : B ≤ w.heap.size) :
    ∃ v' w', (Builtin.append_ #[25, 25] ty #[v, .slice a n c]).run Tryz.prog w = .ok v' w' ∧ SOwns w' B v' (xs ++ ds) ∧ w.grownBy w' v.ownBlock ∧ (v ≠ .slice none 0 0 → v' ≠ .slice none 0 0) := by
  obtain ⟨i0, hi0, hz0, hz1, hz2⟩ := info_parts Tryz.infoSession
  cases a with
  | none =>
    obtain rfl := hc rfl
    obtain ⟨rfl, rfl⟩ := srow_none hR
    exact ⟨v, w, run_append_owned_none (P := Tryz.prog) w B 25 ty 93 i0 3 Tryz.underlying25 hi0 _ _ _ hO, by rw [List.append_nil]; exact hO, ⟨rfl, rfl, rfl, Nat.le_refl _, fun _ _ _ => rfl⟩, fun h => h⟩
  | some ad =>
    obtain ⟨v', w', hr, ho, hg, hv⟩ := run_append_own (P := Tryz.prog) w B 25 ty 93 i0 (.agg #[.bool false, .int .i64 0, .slice none 0 0]) 3 40 Tryz.underlying25 hi0 hz0 hz1 hz2 rfl (by decide) _ _ _ hO ad n c (scs ds) (by rw [scs_len, hR.1]) (srow_src hR) (scs_one _) (by unfold maxLen; omega) (by omega) hB
    refine ⟨v', w', hr, ?_, hg, fun h h' => h (hv.1 h').1⟩
    unfold SOwns
    rw [scs_append, List.length_append, hR.1]
    exact ho
set_option maxRecDepth 100000 in
set_option maxHeartbeats 4000000 in
theorem growS (n : Nat) (w : World) (hn : n ≤ 2000000) :
    Calls Tryz.prog 123 #[.slice none 0 0, .int .i64 (n : Int)] w fun e w' => ∃ v, e = .returned v ∧ SOwns w' w.heap.size v [] ∧ (0 < n → v ≠ .slice none 0 0) ∧ Below w.heap.size w w' := by
  obtain ⟨i0, hi0, hz0, hz1, hz2⟩ := info_parts Tryz.infoSession
  by_cases h0 : 0 < n
  · have hr := Lib.run_append_nil_zeros (P := Tryz.prog) w 25 3 25 93 i0 (.agg #[.bool false, .int .i64 0, .slice none 0 0]) .i64 .i64 Tryz.underlying25 Tryz.underlying3 hi0 hz0 n h0 (by omega) (by omega) (by rw [hz2]; omega)
    have HO := hide (grow_owns (w := w) (B := w.heap.size) (e := 93) (size := 3) (n := n) (z := .agg #[.bool false, .int .i64 0, .slice none 0 0]) rfl (by unfold maxLen; omega) (Nat.le_refl _))
    have HB := hide (show Below w.heap.size w _ from ((Below.refl w.heap.size w).drew.alloc (Nat.le_refl _) (.cells (Builtin.zeroCells (Value.cells (.agg #[.bool false, .int .i64 0, .slice none 0 0])) n ++ Builtin.zeroCells (Value.cells (.agg #[.bool false, .int .i64 0, .slice none 0 0])) (grownCap w n 0 93 - n)) 93)))
    obtain ⟨W, hW⟩ : ∃ W, W = w.drew.alloc (.cells (Builtin.zeroCells (Value.cells (.agg #[.bool false, .int .i64 0, .slice none 0 0])) n ++ Builtin.zeroCells (Value.cells (.agg #[.bool false, .int .i64 0, .slice none 0 0])) (grownCap w n 0 93 - n)) 93) := ⟨_, rfl⟩
    rw [← hW] at hr HO HB
    generalize grownCap w n 0 93 = cap at *
    clear hW
    go_enter Tryz.func123, Tryz.ntmps123
    go_wp2_with (at_builtin; refine Lib.wpList_append_run _ rfl _ _ 25 3 rfl _ _ rfl rfl _ W hr ?_)
    go_ret
    exact ⟨.slice (some ⟨w.heap.size, 0, none⟩) 0 cap, rfl, unhide HO, fun _ h => (by cases h), unhide HB⟩
  · obtain rfl : n = 0 := by omega
    go_enter Tryz.func123, Tryz.ntmps123
    go_wp2_with fail
    go_ret
    exact ⟨.slice none 0 0, rfl, World.ownsRow_nil _ _ _ _, fun h => absurd h (by omega), Below.refl _ _⟩
set_option maxRecDepth 100000 in
set_option maxHeartbeats 4000000 in
theorem concatS1 (ob : Nat) (a : Option Addr) (n c : Nat) (es : List SesR) (w : World) (hc : w.cell? ⟨ob, 0, none⟩ = some (.slice a n c)) (hR : SRow w a n es) (hcn : a = none → c = 0) (hn : n ≤ 1100000) :
    Calls Tryz.prog 113 #[.slice (some ⟨ob, 0, none⟩) 1 1] w fun e w' => ∃ v, e = .returned v ∧ SOwns w' w.heap.size v es ∧ Below w.heap.size w w' := by
  have R := hide hR
  have hob := cell_lt hc
  clear hR
  go_enter Tryz.func113, Tryz.ntmps113
  go_wp2_with fail
  refine wp_loop_rounds 2 ?_
  rw [rounds_succ]
  go_wp2_with fail
  rw [rounds_succ]
  go_wp2_with fail
  refine (growS n w (by omega)).mono ?_
  rintro e w1 ⟨v1, rfl, hO, _, hb⟩
  obtain ⟨v2, w2, hr, hO2, hg2, _⟩ := run_appS (c := c) 25 hO ((unhide R).below hb) (by simp) (by omega) hcn hb.size
  have hc1 := (hb.cell (p := ⟨ob, 0, none⟩) hob).trans hc
  have B2 := hide (hb.trans ((Below.refl w.heap.size w1).grown hg2 hb.size (fun k hk => (hO.lt k hk).1)))
  have O2 := hide (show SOwns w2 w.heap.size v2 es from hO2)
  clear hO hO2 hg2 hb R
  go_wp2_with fail
  refine wp_loop_rounds 2 ?_
  rw [rounds_succ]
  go_wp2_with (at_builtin; refine wpAppE rfl _ _ 25 rfl _ _ v2 w2 rfl rfl hr ?_)
  rw [rounds_succ]
  go_wp2_with fail
  go_ret
  exact ⟨v2, rfl, unhide O2, unhide B2⟩
end Go.Proofs.YtfajenejngddeaaGreat

namespace Go.Proofs.YtfajenejngddeaaGreat
open Go.RowKit

/-- A session whose writes are not its own yet. -/
def flE (h : SeH) : El := ⟨(seEl h).hd, []⟩
theorem scs_flat : ∀ hs : List SeH, scs (hs.map seR) = (hs.map flE).flatMap (·.hd)
  | [] => rfl
  | h :: r => by
    rw [List.map_cons, List.map_cons, List.flatMap_cons, scs, scs_flat r]
    rfl
theorem srow_of_in {w : World} {s : Sl} {hs : List SeH} (h : SeIn w (.slice s.a s.n s.c) s.n hs) : SRow w s.a s.n (hs.map seR) := by
  have hl : hs.length = s.n := by have := h.len; rw [List.length_map] at this; exact this
  refine ⟨by rw [List.length_map]; exact hl, fun i hi => ?_⟩
  rw [List.length_map] at hi
  obtain ⟨b, off, e, _, c0, c1, c2⟩ := SeIn.cells h hi
  refine ⟨b, off, e, ?_, ?_, ?_⟩
  · rw [List.getElem_map]; exact c0
  · rw [List.getElem_map]; exact c1
  · rw [List.getElem_map]; exact c2
theorem os_at {done hs : List SeH} {k : Nat} (hd : done.length = k) (hk : k < hs.length) : (done.map seEl ++ (hs.drop k).map flE)[k]? = some (flE hs[k]) := by
  rw [List.getElem?_append_right (by rw [List.length_map]; omega), List.length_map, hd, Nat.sub_self, List.drop_eq_getElem_cons hk]
  rfl
theorem os_set {done hs : List SeH} {k : Nat} (hd : done.length = k) (hk : k < hs.length) (x : SeH) : (done.map seEl ++ (hs.drop k).map flE).set k (seEl x) = (done ++ [x]).map seEl ++ (hs.drop (k + 1)).map flE := by
  rw [List.set_append_right _ _ (by rw [List.length_map]; omega), List.length_map, hd, Nat.sub_self, List.drop_eq_getElem_cons hk, List.map_append, List.append_assoc]
  rfl
/-- A session's writes laid anew. -/
theorem os_step {wr w5 : World} {B C g n c k : Nat} {hs done : List SeH} (h : NOwn wr B 93 3 (.slice (some ⟨g, 0, none⟩) n c) n (done.map seEl ++ (hs.drop k).map flE)) (hd : done.length = k) (hk : k < hs.length) (hb : Below wr.heap.size wr w5) (q : Sl) (ho : VOwns w5 C (.slice q.a q.n q.c) hs[k].X.ws) (hC : wr.heap.size ≤ C) (hBC : B ≤ C) :
    NOwn (w5.setCell ⟨g, k * 3 + 2, none⟩ (.slice q.a q.n q.c)) B 93 3 (.slice (some ⟨g, 0, none⟩) n c) n ((done ++ [(⟨hs[k].X, q⟩ : SeH)]).map seEl ++ (hs.drop (k + 1)).map flE) ∧ WrB (fun i => i = g) w5 (w5.setCell ⟨g, k * 3 + 2, none⟩ (.slice q.a q.n q.c)) ∧ w5.cell? ⟨g, k * 3 + 2, none⟩ = some (.slice hs[k].s0.a hs[k].s0.n hs[k].s0.c) ∧ w5.frozen? ⟨g, k * 3 + 2, none⟩ = false := by
  have hi := os_at hd hk
  have h1 := h.addSb (xs := [(⟨39, 4, hs[k].X.ws.length, .slice q.a q.n q.c, vcs hs[k].X.ws⟩ : Sb)]) hi hb hC hBC (fun x hx => by rw [List.mem_singleton.1 hx]; exact ho) (fun a b x y hx hy hab => by
    match a, hx, b, hy with
    | 0, _, 0, _ => exact absurd rfl hab
    | a + 1, hx, _, _ => cases hx
    | 0, _, b + 1, hy => cases hy)
  have hl := (List.getElem?_eq_some_iff.1 hi).1
  have h2 := h1.setHd (j := 2) (List.getElem?_set_self hl) (by decide) (.slice q.a q.n q.c)
  rw [List.set_set] at h2
  refine ⟨?_, h2.2, h1.cell (j := 2) (List.getElem?_set_self hl) rfl, h1.free _⟩
  have h3 := h2.1
  have e : (⟨(flE hs[k]).hd.set 2 (.slice q.a q.n q.c), [⟨39, 4, hs[k].X.ws.length, .slice q.a q.n q.c, vcs hs[k].X.ws⟩]⟩ : El) = seEl ⟨hs[k].X, q⟩ := rfl
  rw [e, os_set hd hk] at h3
  exact h3
set_option maxRecDepth 100000 in
set_option maxHeartbeats 4000000 in
theorem ownSessions_any (s : Sl) (hs : List SeH) (w : World) (hI : SeIn w (.slice s.a s.n s.c) s.n hs) (hcs : s.a = none → s.c = 0) (hcw : ∀ h ∈ hs, Cap h.s0) (hn : s.n ≤ 1048576) (hwn : ∀ h ∈ hs, h.s0.n ≤ 1048576) :
    Calls Tryz.prog 80 #[.slice s.a s.n s.c] w fun e w' => ∃ (s' : Sl) (hs' : List SeH), e = .returned (.slice s'.a s'.n s'.c) ∧ SeOwn w' w.heap.size (.slice s'.a s'.n s'.c) hs' ∧ hs'.map (·.X) = hs.map (·.X) ∧ Below w.heap.size w w' := by
  obtain ⟨W, hW⟩ : ∃ W, W = w.alloc (.cells #[.slice s.a s.n s.c] 25) := ⟨_, rfl⟩
  have b1 : Below w.heap.size w W := by subst hW; exact (Below.refl _ _).alloc (Nat.le_refl _) _
  have c1 : W.cell? ⟨w.heap.size, 0, none⟩ = some (.slice s.a s.n s.c) := by subst hW; exact (heap_at (heap_alloc_new _ _) 0).1
  have hl : hs.length = s.n := by have := hI.len; rw [List.length_map] at this; exact this
  have CS := hide (concatS1 w.heap.size s.a s.n s.c (hs.map seR) W c1 ((srow_of_in hI).below b1) hcs (by omega))
  have BH := hide b1
  have HI := hide hI
  have CW := hide hcw
  have WN := hide hwn
  obtain ⟨sa, sn, sc⟩ := s
  simp only at hW CS hn hl HI ⊢
  clear b1 c1 hI hcw hwn hcs
  go_enter Tryz.func80, Tryz.ntmps80
  go_wp2_with fail
  rw [← hW]
  clear hW
  refine (unhide CS).mono ?_
  rintro e w1 ⟨v, rfl, hO, hb⟩
  obtain ⟨⟨va, vn, vc⟩, rfl, hvn⟩ := v_slice hO
  simp only [List.length_map] at hvn
  obtain rfl : vn = sn := by omega
  have N0 := hide (show NOwn w1 w.heap.size 93 3 (.slice va vn vc) vn (([] : List SeH).map seEl ++ (hs.drop 0).map flE) by
    have h0 := gd_base hO (unhide BH).size
    rw [scs_flat, List.length_map, hl] at h0
    exact NOwn.flat h0 (by simpa using hl) (fun e he => by obtain ⟨x, _, rfl⟩ := List.mem_map.1 he; rfl) (fun e he => by obtain ⟨x, _, rfl⟩ := List.mem_map.1 he; rfl))
  have B0 := hide ((unhide BH).trans (hb.mono (unhide BH).size))
  have HLn := hide hl
  clear hO hb CS hvn hl
  go_wp2_with fail
  go_loopw [9] (fun i wr => ∃ (k : Nat) (done : List SeH), i = .int .i64 (k : Int) ∧ k ≤ vn ∧ Hid (done.length = k ∧ done.map (·.X) = (hs.take k).map (·.X)) ∧ Hid (NOwn wr w.heap.size 93 3 (.slice va vn vc) vn (done.map seEl ++ (hs.drop k).map flE)) ∧ Hid (Below w.heap.size w wr)) (fun i _ => vn - (intOf i).toNat)
  case atStart => exact ⟨0, [], rfl, Nat.zero_le _, hide ⟨rfl, rfl⟩, N0, B0⟩
  case round =>
    clear N0 B0
    obtain ⟨k, done, rfl, hk, hD, hN, hB⟩ := hrel
    by_cases hlt : k < vn
    case neg =>
      obtain rfl : k = vn := by omega
      have RES := hide (show SeOwn wr w.heap.size (.slice va k vc) done ∧ done.map (·.X) = hs.map (·.X) by
        have h1 := unhide hN
        have h2 := (unhide hD).2
        rw [List.take_of_length_le (by rw [unhide HLn]; exact Nat.le_refl _)] at h2
        rw [List.drop_eq_nil_of_le (by rw [unhide HLn]; exact Nat.le_refl _), List.map_nil, List.append_nil] at h1
        have h3 := (unhide hD).1
        refine ⟨?_, h2⟩
        show NOwn _ _ _ _ _ done.length _
        rw [h3]
        exact h1)
      go_wp2_with fail
      go_ret
      exact ⟨⟨va, k, vc⟩, rfl, done, (unhide RES).1, (unhide RES).2, unhide hB⟩
    have hk2 : k < hs.length := by rw [unhide HLn]; exact hlt
    have hkn : (k : Int) < (vn : Int) := by omega
    have hne : Value.slice va vn vc ≠ .slice none 0 0 := fun e => by injection e with _ e _; omega
    obtain ⟨g, c, e, hgB, hg, hc⟩ := owns_form (unhide hN).row hne
    injection e with e1 _ e3
    subst e1 e3
    have d2 := (unhide hN).cell (j := 2) (os_at (unhide hD).1 hk2) rfl
    have RW := SeIn.row ((unhide HI).below (unhide hB)) hk2
    have CC := unhide CW hs[k] (List.getElem_mem hk2)
    have hwn := unhide WN hs[k] (List.getElem_mem hk2)
    have bA : Below wr.heap.size wr (wr.alloc (.cells #[.slice hs[k].s0.a hs[k].s0.n hs[k].s0.c] 23)) := (Below.refl _ _).alloc (Nat.le_refl _) _
    have cA : (wr.alloc (.cells #[.slice hs[k].s0.a hs[k].s0.n hs[k].s0.c] 23)).cell? ⟨wr.heap.size, 0, none⟩ = some (.slice hs[k].s0.a hs[k].s0.n hs[k].s0.c) := (heap_at (heap_alloc_new _ _) 0).1
    have CV := hide (concatV1 wr.heap.size hs[k].s0.a hs[k].s0.n hs[k].s0.c hs[k].X.ws (wr.alloc (.cells #[.slice hs[k].s0.a hs[k].s0.n hs[k].s0.c] 23)) cA (RW.below bA) CC.2 (by omega))
    have STP := hide (fun (w5 : World) (q : Sl) (hb : Below wr.heap.size wr w5) (ho : VOwns w5 wr.heap.size (.slice q.a q.n q.c) hs[k].X.ws) => os_step (unhide hN) (unhide hD).1 hk2 hb q ho (Nat.le_refl _) (unhide hB).size)
    have TK := hide (show ∀ q : Sl, (done ++ [(⟨hs[k].X, q⟩ : SeH)]).length = k + 1 ∧ (done ++ [(⟨hs[k].X, q⟩ : SeH)]).map (·.X) = (hs.take (k + 1)).map (·.X) from fun q => ⟨by rw [List.length_append, (unhide hD).1]; rfl, by rw [takeG_snoc hs k hk2, List.map_append, List.map_append, (unhide hD).2]; rfl⟩)
    have BA := hide bA
    have d2' : wr.cell? ⟨g, k * 3 + 2, none⟩ = some (.slice hs[k].s0.a hs[k].s0.n hs[k].s0.c) := d2
    clear bA cA RW CC hwn d2 hN hD
    generalize hs[k] = x at *
    obtain ⟨X, ⟨wa, wn, wc⟩⟩ := x
    simp only at CV STP TK d2' BA
    go_wp2_with fail
    refine (unhide CV).mono ?_
    rintro e w5 ⟨v5, rfl, o5, b5⟩
    obtain ⟨⟨qa, qn, qc⟩, rfl, -⟩ := v_slice o5
    have b6 := (unhide BA).trans (b5.mono (unhide BA).size)
    obtain ⟨N5, W5, d5, f5⟩ := unhide STP w5 ⟨qa, qn, qc⟩ b6 (gd_base o5 (unhide BA).size)
    have bw := (unhide hB).trans (b6.mono (unhide hB).size)
    have NX := hide N5
    have BX := hide (bw.trans (WrB.below W5 (fun i e => by rw [e]; exact hgB) bw.size))
    have DX := hide (unhide TK ⟨qa, qn, qc⟩)
    simp only at d5 NX BX
    clear N5 W5 bw b6 o5 b5 CV STP TK BA d2'
    simp only
    go_wp2_with fail
    go_roundw
    case rel => exact ⟨k + 1, _, by go_num, by omega, DX, NX, BX⟩
    case measure => simp [intOf]; omega
end Go.Proofs.YtfajenejngddeaaGreat

namespace Go.Proofs.YtfajenejngddeaaGreat
open Go.RowKit

/-- append(a row of the call's own, a list...), nil or not. -/
theorem run_appF {w : World} {B : Nat} {v : Value} {a : Option Addr} {n c : Nat} {xs ds : List FenD} (ty : TypeId) (hO : FOwns w B v xs) (hR : FRow w a n ds) (hx : xs.length ≤ 2000000) (hn : n ≤ 2000000) (hc : a = none → c = 0) (hB : B ≤ w.heap.size) :
    ∃ v' w', (Builtin.append_ #[24, 24] ty #[v, .slice a n c]).run Tryz.prog w = .ok v' w' ∧ FOwns w' B v' (xs ++ ds) ∧ w.grownBy w' v.ownBlock ∧ (v ≠ .slice none 0 0 → v' ≠ .slice none 0 0) := by
  obtain ⟨i0, hi0, hz0, hz1, hz2⟩ := info_parts Tryz.infoFence
  cases a with
  | none =>
    obtain rfl := hc rfl
    obtain ⟨rfl, rfl⟩ := frow_none hR
    exact ⟨v, w, run_append_owned_none (P := Tryz.prog) w B 24 ty 90 i0 3 Tryz.underlying24 hi0 _ _ _ hO, by rw [List.append_nil]; exact hO, ⟨rfl, rfl, rfl, Nat.le_refl _, fun _ _ _ => rfl⟩, fun h => h⟩
  | some ad =>
    obtain ⟨v', w', hr, ho, hg, hv⟩ := run_append_own (P := Tryz.prog) w B 24 ty 90 i0 (.agg #[.string ByteArray.empty, .string ByteArray.empty, .int .i64 0]) 3 40 Tryz.underlying24 hi0 hz0 hz1 hz2 rfl (by decide) _ _ _ hO ad n c (fcs ds) (by rw [fcs_len, hR.1]) (frow_src hR) (fcs_one _) (by unfold maxLen; omega) (by omega) hB
    refine ⟨v', w', hr, ?_, hg, fun h h' => h (hv.1 h').1⟩
    unfold FOwns
    rw [fcs_append, List.length_append, hR.1]
    exact ho
set_option maxRecDepth 100000 in
set_option maxHeartbeats 4000000 in
theorem growF (n : Nat) (w : World) (hn : n ≤ 2000000) :
    Calls Tryz.prog 112 #[.slice none 0 0, .int .i64 (n : Int)] w fun e w' => ∃ v, e = .returned v ∧ FOwns w' w.heap.size v [] ∧ (0 < n → v ≠ .slice none 0 0) ∧ Below w.heap.size w w' := by
  obtain ⟨i0, hi0, hz0, hz1, hz2⟩ := info_parts Tryz.infoFence
  by_cases h0 : 0 < n
  · have hr := Lib.run_append_nil_zeros (P := Tryz.prog) w 24 3 24 90 i0 (.agg #[.string ByteArray.empty, .string ByteArray.empty, .int .i64 0]) .i64 .i64 Tryz.underlying24 Tryz.underlying3 hi0 hz0 n h0 (by omega) (by omega) (by rw [hz2]; omega)
    have HO := hide (grow_owns (w := w) (B := w.heap.size) (e := 90) (size := 3) (n := n) (z := .agg #[.string ByteArray.empty, .string ByteArray.empty, .int .i64 0]) rfl (by unfold maxLen; omega) (Nat.le_refl _))
    have HB := hide (show Below w.heap.size w _ from ((Below.refl w.heap.size w).drew.alloc (Nat.le_refl _) (.cells (Builtin.zeroCells (Value.cells (.agg #[.string ByteArray.empty, .string ByteArray.empty, .int .i64 0])) n ++ Builtin.zeroCells (Value.cells (.agg #[.string ByteArray.empty, .string ByteArray.empty, .int .i64 0])) (grownCap w n 0 90 - n)) 90)))
    obtain ⟨W, hW⟩ : ∃ W, W = w.drew.alloc (.cells (Builtin.zeroCells (Value.cells (.agg #[.string ByteArray.empty, .string ByteArray.empty, .int .i64 0])) n ++ Builtin.zeroCells (Value.cells (.agg #[.string ByteArray.empty, .string ByteArray.empty, .int .i64 0])) (grownCap w n 0 90 - n)) 90) := ⟨_, rfl⟩
    rw [← hW] at hr HO HB
    generalize grownCap w n 0 90 = cap at *
    clear hW
    go_enter Tryz.func112, Tryz.ntmps112
    go_wp2_with (at_builtin; refine Lib.wpList_append_run _ rfl _ _ 24 3 rfl _ _ rfl rfl _ W hr ?_)
    go_ret
    exact ⟨.slice (some ⟨w.heap.size, 0, none⟩) 0 cap, rfl, unhide HO, fun _ h => (by cases h), unhide HB⟩
  · obtain rfl : n = 0 := by omega
    go_enter Tryz.func112, Tryz.ntmps112
    go_wp2_with fail
    go_ret
    exact ⟨.slice none 0 0, rfl, World.ownsRow_nil _ _ _ _, fun h => absurd h (by omega), Below.refl _ _⟩
set_option maxRecDepth 100000 in
set_option maxHeartbeats 4000000 in
theorem concatF1 (ob : Nat) (a : Option Addr) (n c : Nat) (es : List FenD) (w : World) (hc : w.cell? ⟨ob, 0, none⟩ = some (.slice a n c)) (hR : FRow w a n es) (hcn : a = none → c = 0) (hn : n ≤ 1100000) :
    Calls Tryz.prog 79 #[.slice (some ⟨ob, 0, none⟩) 1 1] w fun e w' => ∃ v, e = .returned v ∧ FOwns w' w.heap.size v es ∧ Below w.heap.size w w' := by
  have R := hide hR
  have hob := cell_lt hc
  clear hR
  go_enter Tryz.func79, Tryz.ntmps79
  go_wp2_with fail
  refine wp_loop_rounds 2 ?_
  rw [rounds_succ]
  go_wp2_with fail
  rw [rounds_succ]
  go_wp2_with fail
  refine (growF n w (by omega)).mono ?_
  rintro e w1 ⟨v1, rfl, hO, _, hb⟩
  obtain ⟨v2, w2, hr, hO2, hg2, _⟩ := run_appF (c := c) 24 hO ((unhide R).below hb) (by simp) (by omega) hcn hb.size
  have hc1 := (hb.cell (p := ⟨ob, 0, none⟩) hob).trans hc
  have B2 := hide (hb.trans ((Below.refl w.heap.size w1).grown hg2 hb.size (fun k hk => (hO.lt k hk).1)))
  have O2 := hide (show FOwns w2 w.heap.size v2 es from hO2)
  clear hO hO2 hg2 hb R
  go_wp2_with fail
  refine wp_loop_rounds 2 ?_
  rw [rounds_succ]
  go_wp2_with (at_builtin; refine wpAppE rfl _ _ 24 rfl _ _ v2 w2 rfl rfl hr ?_)
  rw [rounds_succ]
  go_wp2_with fail
  go_ret
  exact ⟨v2, rfl, unhide O2, unhide B2⟩
end Go.Proofs.YtfajenejngddeaaGreat

namespace Go.Proofs.YtfajenejngddeaaGreat
open Go.RowKit

/-- A ledger in memory of its own. -/
structure LdAt (w : World) (B lb m N : Nat) (h : ByteArray → Value) (next : Int) (f s : Sl) (hs : List SeH) (ds : List VerD) (fs : List FenD) : Prop where
  box : w.heap[lb]? = some (.cells #[.int .i64 next, .map (some m), .slice f.a f.n f.c, .slice s.a s.n s.c] 86 (0, 0))
  his : HisAt w m N (m + 1) h ds
  fo : FOwns w B (.slice f.a f.n f.c) fs
  so : SeOwn w B (.slice s.a s.n s.c) hs
  far : ∀ k g, (h k).ownBlock = some g → ¬ NBl (.slice s.a s.n s.c) (hs.map seEl) g
  mge : B ≤ m
  lge : B ≤ lb
/-- A ledger of Versions, given back. -/
def LoRes (d : VsD) (w : World) (e : Ending) (w' : World) : Prop := ∃ (lb m N : Nat) (h : ByteArray → Value) (f s : Sl) (hs : List SeH), e = .returned (.pointer (some ⟨lb, 0, none⟩)) ∧ LdAt w' w.heap.size lb m N h d.next f s hs d.list d.fen ∧ N ≤ 4096 ∧ hs.map (·.X) = d.ses ∧ Below w.heap.size w w'
set_option maxRecDepth 100000 in
set_option maxHeartbeats 8000000 in
theorem ledgerOf_any (d : VsD) (l f s : Sl) (hs : List SeH) (w : World) (hI : VzIn w l f s hs d) (hcs : s.a = none → s.c = 0) (hl : VsFew l f s (hs.map seR)) (hln : l.n ≤ 4096) (hk : ∀ i (hi : i < d.list.length), d.list[i].k.size ≤ maxLen) :
    Calls Tryz.prog 33 #[.agg (vzC d.next l f s)] w (LoRes d w) := by
  obtain ⟨W, hW⟩ : ∃ W, W = w.alloc (.cells (vzC d.next l f s) 27) := ⟨_, rfl⟩
  have b1 : Below w.heap.size w W := by subst hW; exact (Below.refl _ _).alloc (Nat.le_refl _) _
  have kv : W.heap[w.heap.size]? = some (.cells (vzC d.next l f s) 27 (0, 0)) := by subst hW; exact heap_alloc_new _ _
  have hz0 : w.heap.size < W.heap.size := blk_lt kv
  have IW := hI.below b1
  have SSD := hide hI.ss
  have SH := hide (fun (u : World) (hb : Below W.heap.size W u) => historyOf_any l.a l.n l.c d.list u hln (IW.vr.below hb) hk)
  have SF := hide (fun (ob : Nat) (u : World) (hb : Below W.heap.size W u) (hc : u.cell? ⟨ob, 0, none⟩ = some (.slice f.a f.n f.c)) => concatF1 ob f.a f.n f.c d.fen u hc (IW.fr.below hb) IW.cf.2 (by have := hl.f; omega))
  have SS := hide (fun (u : World) (hb : Below W.heap.size W u) => ownSessions_any s hs u (IW.below hb).sr hcs IW.cw (by have := hl.s; omega) (fun h hh => by
    obtain ⟨k, hk, rfl⟩ := List.getElem_of_mem hh
    have h1 := hl.w k (by simpa using hk)
    rw [List.getElem_map] at h1
    exact h1))
  have BH := hide b1
  have HLN := hide hln
  obtain ⟨la, ln, lc⟩ := l
  obtain ⟨fa, fn, fc⟩ := f
  obtain ⟨sa, sn, sc⟩ := s
  unfold vzC at *
  simp only at hW kv SH SF SS HLN ⊢
  have SK := hide (show ∀ u, Below W.heap.size W u → (u.cell? ⟨w.heap.size, 0, none⟩ = some (.int .i64 d.next) ∧ u.cell? ⟨w.heap.size, 1, none⟩ = some (.slice la ln lc) ∧ u.cell? ⟨w.heap.size, 2, none⟩ = some (.slice fa fn fc) ∧ u.cell? ⟨w.heap.size, 3, none⟩ = some (.slice sa sn sc)) from fun u hu => ⟨(hu.cell (p := ⟨w.heap.size, 0, none⟩) hz0).trans (heap_at kv 0).1, (hu.cell (p := ⟨w.heap.size, 1, none⟩) hz0).trans (heap_at kv 1).1, (hu.cell (p := ⟨w.heap.size, 2, none⟩) hz0).trans (heap_at kv 2).1, (hu.cell (p := ⟨w.heap.size, 3, none⟩) hz0).trans (heap_at kv 3).1⟩)
  have B0 := hide (Below.refl W.heap.size W).drew
  clear hI hl hk b1 kv IW hcs hln
  go_enter Tryz.func33, Tryz.ntmps33
  go_upto_region 1 with fail
  rw [← hW]
  clear hW
  refine wp_region_held_drew (S := (fun u => (u.cell? ⟨w.heap.size, 0, none⟩ = some (.int .i64 d.next) ∧ u.cell? ⟨w.heap.size, 1, none⟩ = some (.slice la ln lc) ∧ u.cell? ⟨w.heap.size, 2, none⟩ = some (.slice fa fn fc) ∧ u.cell? ⟨w.heap.size, 3, none⟩ = some (.slice sa sn sc)))) (by kernel_rfl) (unhide SK _ (unhide B0)) (fun hHeld => ?_)
  generalize W.drew = u0 at *
  refine anyH_take 0 3 (v := ?v1) rfl rfl (by kernel_rfl) (by kernel_rfl) (by kernel_rfl) (fun _ _ _ h => h) (by rfl) ?h1 hHeld ?r1
  case h1 => (intro w hSw; (try dsimp only at hSw); go_simp; try (with_reducible rfl))
  simp only [Act.put, List.setIfInBounds_toArray, List.set_cons_zero, List.set_cons_succ]
  refine anyH_take 1 4 (v := ?v2) rfl rfl (by kernel_rfl) (by kernel_rfl) (by kernel_rfl) (fun _ _ _ h => h) (by rfl) ?h2 hHeld ?r2
  case h2 => (intro w hSw; (try dsimp only at hSw); go_simp; try (with_reducible rfl))
  simp only [Act.put, List.setIfInBounds_toArray, List.set_cons_zero, List.set_cons_succ]
  refine anyH_take 2 5 (v := ?v3) rfl rfl (by kernel_rfl) (by kernel_rfl) (by kernel_rfl) (fun _ _ _ h => h) (by rfl) ?h3 hHeld ?r3
  case h3 => (intro w hSw; (try dsimp only at hSw); go_simp; try (with_reducible rfl))
  simp only [Act.put, List.setIfInBounds_toArray, List.set_cons_zero, List.set_cons_succ]
  refine anyH_take 3 6 (v := ?v4) rfl rfl (by kernel_rfl) (by kernel_rfl) (by kernel_rfl) (fun _ _ _ h => h) (by rfl) ?h4 hHeld ?r4
  case h4 => (intro w hSw; (try dsimp only at hSw); go_simp; try (with_reducible rfl))
  simp only [Act.put, List.setIfInBounds_toArray, List.set_cons_zero, List.set_cons_succ]
  refine anyH_take 5 8 (v := ?v5) rfl rfl (by kernel_rfl) (by kernel_rfl) (by kernel_rfl) (fun _ _ _ h => h) (by rfl) ?h5 hHeld ?r5
  case h5 => (intro w hSw; (try dsimp only at hSw); go_simp; try (with_reducible rfl))
  simp only [Act.put, List.setIfInBounds_toArray, List.set_cons_zero, List.set_cons_succ]
  refine anyH_take 6 9 (v := ?v6) rfl rfl (by kernel_rfl) (by kernel_rfl) (by kernel_rfl) (fun _ _ _ h => h) (by rfl) ?h6 hHeld ?r6
  case h6 => (intro w hSw; (try dsimp only at hSw); go_simp; try (with_reducible rfl))
  simp only [Act.put, List.setIfInBounds_toArray, List.set_cons_zero, List.set_cons_succ]
  refine anyH_take 9 12 (v := ?v7) rfl rfl (by kernel_rfl) (by kernel_rfl) (by kernel_rfl) (fun _ _ _ h => h) (by rfl) ?h7 hHeld ?r7
  case h7 => (intro w hSw; (try dsimp only at hSw); go_simp; try (with_reducible rfl))
  simp only [Act.put, List.setIfInBounds_toArray, List.set_cons_zero, List.set_cons_succ]
  refine anyH_take 10 13 (v := ?v8) rfl rfl (by kernel_rfl) (by kernel_rfl) (by kernel_rfl) (fun _ _ _ h => h) (by rfl) ?h8 hHeld ?r8
  case h8 => (intro w hSw; (try dsimp only at hSw); go_simp; try (with_reducible rfl))
  simp only [Act.put, List.setIfInBounds_toArray, List.set_cons_zero, List.set_cons_succ]
  refine wpAnyH_ready (rs := [4, 7]) (by kernel_rfl) (by simp) ?_
  refine AllReadyH.cons rfl (fun K hK => ?_) (AllReadyH.cons rfl (fun K hK => ?_) AllReadyH.nil)
  · go_simp
    refine (unhide SH _ (unhide B0)).mono ?_
    rintro e u4 ⟨h, rfl, hH, hb4⟩
    have HH4 := hide hH
    have M4 := (unhide B0).size
    have B4 := hide ((unhide B0).trans (hb4.mono (unhide B0).size))
    clear hH hb4
    generalize u0.heap.size = m4 at *
    refine hK.out _ _ (unhide SK _ (unhide B4)) (fun hHeld => ?_)
    clear hK K
    refine wpAnyH_ready (rs := [7]) (by kernel_rfl) (by simp) ?_
    refine AllReadyH.cons rfl (fun K hK => ?_) AllReadyH.nil
    have bA7 : Below u4.heap.size u4 (u4.alloc (.cells #[.slice fa fn fc] 24)) := (Below.refl _ _).alloc (Nat.le_refl _) _
    have C7 := hide (show (u4.alloc (.cells #[.slice fa fn fc] 24)).cell? ⟨u4.heap.size, 0, none⟩ = some (.slice fa fn fc) from (heap_at (heap_alloc_new _ _) 0).1)
    have B4_7 := hide ((unhide B4).trans (bA7.mono (unhide B4).size))
    have HH7 := hide ((unhide HH4).below bA7)
    go_simp
    generalize u4.alloc (.cells #[.slice fa fn fc] 24) = u4_7 at *
    generalize hq7 : u4.heap.size = o7 at *
    clear bA7
    refine hK.out _ _ (unhide SK _ (unhide B4_7)) (fun hHeld => ?_)
    clear hK K
    refine wpAnyH_ready (rs := [8]) (by kernel_rfl) (by simp) ?_
    refine AllReadyH.cons rfl (fun K hK => ?_) AllReadyH.nil
    go_simp
    refine (unhide SF _ _ (unhide B4_7) (unhide C7)).mono ?_
    rintro e u4_7_8 ⟨v8, rfl, oF, hb8⟩
    obtain ⟨⟨fa8, fn8, fc8⟩, rfl, -⟩ := v_slice oF
    have OF := hide (gd_base oF (unhide B4_7).size)
    have HH8 := hide ((unhide HH7).below hb8)
    have B4_7_8 := hide ((unhide B4_7).trans (hb8.mono (unhide B4_7).size))
    clear oF hb8
    refine hK.out _ _ (unhide SK _ (unhide B4_7_8)) (fun hHeld => ?_)
    clear hK K
    refine wpAnyH_ready (rs := [11]) (by kernel_rfl) (by simp) ?_
    refine AllReadyH.cons rfl (fun K hK => ?_) AllReadyH.nil
    go_simp
    refine (unhide SS _ (unhide B4_7_8)).mono ?_
    rintro e u4_7_8_11 ⟨⟨sa1, sn1, sc1⟩, hs1, rfl, oS, hX, hb11⟩
    have FAR := hide (show ∀ k g, (h k).ownBlock = some g → ¬ NBl (.slice sa1 sn1 sc1) (hs1.map seEl) g from fun k g hg hn => Nat.lt_irrefl _ (Nat.lt_of_lt_of_le ((unhide HH8).own k |>.lt g hg).2 (oS.lt g hn).1))
    have OS := hide (oS.down (unhide B4_7_8).size)
    have OF1 := hide (rb_ownsRow_below (unhide OF) hb11)
    have HH11 := hide ((unhide HH8).below hb11)
    have HX := hide (hX.trans (unhide SSD))
    have B4_7_8_11 := hide ((unhide B4_7_8).trans (hb11.mono (unhide B4_7_8).size))
    clear oS hX hb11
    refine hK.out _ _ (unhide SK _ (unhide B4_7_8_11)) (fun hHeld => ?_)
    clear hK K
    refine anyH_take 12 15 (v := ?v9) rfl rfl (by kernel_rfl) (by kernel_rfl) (by kernel_rfl) (fun _ _ _ h => h) (by rfl) ?h9 hHeld ?r9
    case h9 => (intro w hSw; (try dsimp only at hSw); go_simp; try (with_reducible rfl))
    simp only [Act.put, List.setIfInBounds_toArray, List.set_cons_zero, List.set_cons_succ]
    refine wpAnyH_ready (rs := [13]) (by kernel_rfl) (by simp) ?_
    refine AllReadyH.cons rfl (fun K hK => ?_) AllReadyH.nil
    have bL : Below u4_7_8_11.heap.size u4_7_8_11 (u4_7_8_11.alloc (.cells #[.int .i64 d.next, .map (some m4), .slice fa8 fn8 fc8, .slice sa1 sn1 sc1] 86)) := (Below.refl _ _).alloc (Nat.le_refl _) _
    have B4_7_8_11_13 := hide ((unhide B4_7_8_11).trans (bL.mono (unhide B4_7_8_11).size))
    have LD := hide (show LdAt (u4_7_8_11.alloc (.cells #[.int .i64 d.next, .map (some m4), .slice fa8 fn8 fc8, .slice sa1 sn1 sc1] 86)) w.heap.size u4_7_8_11.heap.size m4 _ h d.next ⟨fa8, fn8, fc8⟩ ⟨sa1, sn1, sc1⟩ hs1 d.list d.fen from ⟨heap_alloc_new _ _, (unhide HH11).below bL, gd_base (rb_ownsRow_below (unhide OF1) bL) (Nat.le_of_lt hz0), ((unhide OS).below bL).down (Nat.le_of_lt hz0), unhide FAR, Nat.le_trans (Nat.le_of_lt hz0) M4, Nat.le_trans (Nat.le_of_lt hz0) (unhide B4_7_8_11).size⟩)
    have BE := hide ((unhide BH).trans ((unhide B4_7_8_11_13).mono (Nat.le_of_lt hz0)))
    clear bL
    go_simp
    refine hK.out _ _ (unhide SK _ (unhide B4_7_8_11_13)) (fun hHeld => ?_)
    clear hK K
    refine anyH_take 14 2 (v := ?v10) rfl rfl (by kernel_rfl) (by kernel_rfl) (by kernel_rfl) (fun _ _ _ h => h) (by rfl) ?h10 hHeld ?r10
    case h10 => (intro w hSw; (try dsimp only at hSw); go_simp; try (with_reducible rfl))
    simp only [Act.put, List.setIfInBounds_toArray, List.set_cons_zero, List.set_cons_succ]
    refine wpAnyH_done (by kernel_rfl) ?_ _
    clear hHeld SK SH SF SS
    go_wp2_with fail
    go_ret
    exact ⟨_, _, _, _, _, _, _, rfl, unhide LD, unhide HLN, unhide HX, unhide BE⟩
  · have bA7 : Below u0.heap.size u0 (u0.alloc (.cells #[.slice fa fn fc] 24)) := (Below.refl _ _).alloc (Nat.le_refl _) _
    have C7 := hide (show (u0.alloc (.cells #[.slice fa fn fc] 24)).cell? ⟨u0.heap.size, 0, none⟩ = some (.slice fa fn fc) from (heap_at (heap_alloc_new _ _) 0).1)
    have B7 := hide ((unhide B0).trans (bA7.mono (unhide B0).size))
    go_simp
    generalize u0.alloc (.cells #[.slice fa fn fc] 24) = u7 at *
    generalize u0.heap.size = o7 at *
    clear bA7
    refine hK.out _ _ (unhide SK _ (unhide B7)) (fun hHeld => ?_)
    clear hK K
    refine wpAnyH_ready (rs := [4]) (by kernel_rfl) (by simp) ?_
    refine AllReadyH.cons rfl (fun K hK => ?_) AllReadyH.nil
    go_simp
    refine (unhide SH _ (unhide B7)).mono ?_
    rintro e u7_4 ⟨h, rfl, hH, hb4⟩
    have HH4 := hide hH
    have M4 := (unhide B7).size
    have B7_4 := hide ((unhide B7).trans (hb4.mono (unhide B7).size))
    have C8 := hide ((hb4.cell (p := ⟨o7, 0, none⟩) (cell_lt (unhide C7))).trans (unhide C7))
    clear hH hb4
    generalize u7.heap.size = m4 at *
    refine hK.out _ _ (unhide SK _ (unhide B7_4)) (fun hHeld => ?_)
    clear hK K
    refine wpAnyH_ready (rs := [8]) (by kernel_rfl) (by simp) ?_
    refine AllReadyH.cons rfl (fun K hK => ?_) AllReadyH.nil
    go_simp
    refine (unhide SF _ _ (unhide B7_4) (unhide C8)).mono ?_
    rintro e u7_4_8 ⟨v8, rfl, oF, hb8⟩
    obtain ⟨⟨fa8, fn8, fc8⟩, rfl, -⟩ := v_slice oF
    have OF := hide (gd_base oF (unhide B7_4).size)
    have HH8 := hide ((unhide HH4).below hb8)
    have B7_4_8 := hide ((unhide B7_4).trans (hb8.mono (unhide B7_4).size))
    clear oF hb8
    refine hK.out _ _ (unhide SK _ (unhide B7_4_8)) (fun hHeld => ?_)
    clear hK K
    refine wpAnyH_ready (rs := [11]) (by kernel_rfl) (by simp) ?_
    refine AllReadyH.cons rfl (fun K hK => ?_) AllReadyH.nil
    go_simp
    refine (unhide SS _ (unhide B7_4_8)).mono ?_
    rintro e u7_4_8_11 ⟨⟨sa1, sn1, sc1⟩, hs1, rfl, oS, hX, hb11⟩
    have FAR := hide (show ∀ k g, (h k).ownBlock = some g → ¬ NBl (.slice sa1 sn1 sc1) (hs1.map seEl) g from fun k g hg hn => Nat.lt_irrefl _ (Nat.lt_of_lt_of_le ((unhide HH8).own k |>.lt g hg).2 (oS.lt g hn).1))
    have OS := hide (oS.down (unhide B7_4_8).size)
    have OF1 := hide (rb_ownsRow_below (unhide OF) hb11)
    have HH11 := hide ((unhide HH8).below hb11)
    have HX := hide (hX.trans (unhide SSD))
    have B7_4_8_11 := hide ((unhide B7_4_8).trans (hb11.mono (unhide B7_4_8).size))
    clear oS hX hb11
    refine hK.out _ _ (unhide SK _ (unhide B7_4_8_11)) (fun hHeld => ?_)
    clear hK K
    refine anyH_take 12 15 (v := ?v11) rfl rfl (by kernel_rfl) (by kernel_rfl) (by kernel_rfl) (fun _ _ _ h => h) (by rfl) ?h11 hHeld ?r11
    case h11 => (intro w hSw; (try dsimp only at hSw); go_simp; try (with_reducible rfl))
    simp only [Act.put, List.setIfInBounds_toArray, List.set_cons_zero, List.set_cons_succ]
    refine wpAnyH_ready (rs := [13]) (by kernel_rfl) (by simp) ?_
    refine AllReadyH.cons rfl (fun K hK => ?_) AllReadyH.nil
    have bL : Below u7_4_8_11.heap.size u7_4_8_11 (u7_4_8_11.alloc (.cells #[.int .i64 d.next, .map (some m4), .slice fa8 fn8 fc8, .slice sa1 sn1 sc1] 86)) := (Below.refl _ _).alloc (Nat.le_refl _) _
    have B7_4_8_11_13 := hide ((unhide B7_4_8_11).trans (bL.mono (unhide B7_4_8_11).size))
    have LD := hide (show LdAt (u7_4_8_11.alloc (.cells #[.int .i64 d.next, .map (some m4), .slice fa8 fn8 fc8, .slice sa1 sn1 sc1] 86)) w.heap.size u7_4_8_11.heap.size m4 _ h d.next ⟨fa8, fn8, fc8⟩ ⟨sa1, sn1, sc1⟩ hs1 d.list d.fen from ⟨heap_alloc_new _ _, (unhide HH11).below bL, gd_base (rb_ownsRow_below (unhide OF1) bL) (Nat.le_of_lt hz0), ((unhide OS).below bL).down (Nat.le_of_lt hz0), unhide FAR, Nat.le_trans (Nat.le_of_lt hz0) M4, Nat.le_trans (Nat.le_of_lt hz0) (unhide B7_4_8_11).size⟩)
    have BE := hide ((unhide BH).trans ((unhide B7_4_8_11_13).mono (Nat.le_of_lt hz0)))
    clear bL
    go_simp
    refine hK.out _ _ (unhide SK _ (unhide B7_4_8_11_13)) (fun hHeld => ?_)
    clear hK K
    refine anyH_take 14 2 (v := ?v12) rfl rfl (by kernel_rfl) (by kernel_rfl) (by kernel_rfl) (fun _ _ _ h => h) (by rfl) ?h12 hHeld ?r12
    case h12 => (intro w hSw; (try dsimp only at hSw); go_simp; try (with_reducible rfl))
    simp only [Act.put, List.setIfInBounds_toArray, List.set_cons_zero, List.set_cons_succ]
    refine wpAnyH_done (by kernel_rfl) ?_ _
    clear hHeld SK SH SF SS
    go_wp2_with fail
    go_ret
    exact ⟨_, _, _, _, _, _, _, rfl, unhide LD, unhide HLN, unhide HX, unhide BE⟩
end Go.Proofs.YtfajenejngddeaaGreat

namespace Go.Proofs.YtfajenejngddeaaGreat
open Go.RowKit

/-- A ledger as it reads. -/
structure LdRd (w : World) (lb m N : Nat) (h : ByteArray → Value) (f s : Sl) (hs : List SeH) (d : VsD) : Prop where
  box : w.heap[lb]? = some (.cells #[.int .i64 d.next, .map (some m), .slice f.a f.n f.c, .slice s.a s.n s.c] 86 (0, 0))
  his : HisRd w m N h d.list
  fr : FRow w f.a f.n d.fen
  cf : Cap f
  sr : SeIn w (.slice s.a s.n s.c) s.n hs
  cs : s.a = none → s.c = 0
  cw : ∀ h ∈ hs, Cap h.s0
  ss : hs.map (·.X) = d.ses
theorem LdRd.below {w w' : World} {lb m N : Nat} {h : ByteArray → Value} {f s : Sl} {hs : List SeH} {d : VsD} (q : LdRd w lb m N h f s hs d) (hb : Below w.heap.size w w') : LdRd w' lb m N h f s hs d :=
  ⟨(hb.block lb (blk_lt q.box)).trans q.box, q.his.below hb, q.fr.below hb, q.cf, q.sr.below hb, q.cs, q.cw, q.ss⟩
/-- Versions of their own, given back. -/
def VnRes (d : VsD) (w : World) (e : Ending) (w' : World) : Prop := ∃ (l f s : Sl) (hs : List SeH), e = .returned (.agg (vzC d.next l f s)) ∧ VzOwn w' w.heap.size l f s hs d ∧ Below w.heap.size w w'
set_option maxRecDepth 100000 in
set_option maxHeartbeats 8000000 in
theorem versions_any (lb m N : Nat) (h : ByteArray → Value) (f s : Sl) (hs : List SeH) (d : VsD) (w : World) (hI : LdRd w lb m N h f s hs d) (ok : okVs d.list = true) (hN : N ≤ 100000) (hln : d.list.length ≤ 100000) (hf : f.n ≤ 1000000) (hsn : s.n ≤ 1000000) (hwn : ∀ h ∈ hs, h.s0.n ≤ 1000000) :
    Calls Tryz.prog 38 #[.pointer (some ⟨lb, 0, none⟩)] w (VnRes d w) := by
  obtain ⟨W, hW⟩ : ∃ W, W = w.alloc (.cells #[.int .i64 0, .slice none 0 0, .slice none 0 0, .slice none 0 0] 27) := ⟨_, rfl⟩
  have b1 : Below w.heap.size w W := by subst hW; exact (Below.refl _ _).alloc (Nat.le_refl _) _
  have kv : W.heap[w.heap.size]? = some (.cells #[.int .i64 0, .slice none 0 0, .slice none 0 0, .slice none 0 0] 27 (0, 0)) := by subst hW; exact heap_alloc_new _ _
  have hz0 : w.heap.size < W.heap.size := blk_lt kv
  have hz1 : lb < w.heap.size := blk_lt hI.box
  have SSD := hide hI.ss
  have SL := hide (fun (u : World) (hb : Below w.heap.size w u) => listR_any m N h d.list u (hI.below hb).his ok hN hln)
  have SF := hide (fun (ob : Nat) (u : World) (hb : Below w.heap.size w u) (hc : u.cell? ⟨ob, 0, none⟩ = some (.slice f.a f.n f.c)) => concatF1 ob f.a f.n f.c d.fen u hc (hI.below hb).fr hI.cf.2 (by omega))
  have SS := hide (fun (u : World) (hb : Below w.heap.size w u) => ownSessions_any s hs u (hI.below hb).sr hI.cs hI.cw (by omega) (fun x hx => by have := hwn x hx; omega))
  have box := hI.box
  obtain ⟨fa, fn, fc⟩ := f
  obtain ⟨sa, sn, sc⟩ := s
  simp only at hW kv SF SS box ⊢
  have SK := hide (show ∀ u, Below w.heap.size w u → (u.cell? ⟨lb, 0, none⟩ = some (.int .i64 d.next) ∧ u.cell? ⟨lb, 1, none⟩ = some (.map (some m)) ∧ u.cell? ⟨lb, 2, none⟩ = some (.slice fa fn fc) ∧ u.cell? ⟨lb, 3, none⟩ = some (.slice sa sn sc)) from fun u hu => ⟨(hu.cell (p := ⟨lb, 0, none⟩) hz1).trans (heap_at box 0).1, (hu.cell (p := ⟨lb, 1, none⟩) hz1).trans (heap_at box 1).1, (hu.cell (p := ⟨lb, 2, none⟩) hz1).trans (heap_at box 2).1, (hu.cell (p := ⟨lb, 3, none⟩) hz1).trans (heap_at box 3).1⟩)
  have B0 := hide b1.drew
  have K0 := hide (show W.drew.heap[w.heap.size]? = _ from kv)
  have Z0 := hide (show W.heap.size ≤ W.drew.heap.size from Nat.le_refl _)
  clear hI b1 kv box ok hN hln hf hsn hwn
  go_enter Tryz.func38, Tryz.ntmps38
  go_upto_region 1 with fail
  rw [← hW]
  clear hW
  refine wp_region_held_drew (S := (fun u => (u.cell? ⟨lb, 0, none⟩ = some (.int .i64 d.next) ∧ u.cell? ⟨lb, 1, none⟩ = some (.map (some m)) ∧ u.cell? ⟨lb, 2, none⟩ = some (.slice fa fn fc) ∧ u.cell? ⟨lb, 3, none⟩ = some (.slice sa sn sc)))) (by kernel_rfl) (unhide SK _ (unhide B0)) (fun hHeld => ?_)
  generalize W.drew = u0 at *
  refine anyH_take 0 3 (v := ?v1) rfl rfl (by kernel_rfl) (by kernel_rfl) (by kernel_rfl) (fun _ _ _ h => h) (by rfl) ?h1 hHeld ?r1
  case h1 => (intro w hSw; (try dsimp only at hSw); go_simp; try (with_reducible rfl))
  simp only [Act.put, List.setIfInBounds_toArray, List.set_cons_zero, List.set_cons_succ]
  refine anyH_take 1 4 (v := ?v2) rfl rfl (by kernel_rfl) (by kernel_rfl) (by kernel_rfl) (fun _ _ _ h => h) (by rfl) ?h2 hHeld ?r2
  case h2 => (intro w hSw; (try dsimp only at hSw); go_simp; try (with_reducible rfl))
  simp only [Act.put, List.setIfInBounds_toArray, List.set_cons_zero, List.set_cons_succ]
  refine anyH_take 2 5 (v := ?v3) rfl rfl (by kernel_rfl) (by kernel_rfl) (by kernel_rfl) (fun _ _ _ h => h) (by rfl) ?h3 hHeld ?r3
  case h3 => (intro w hSw; (try dsimp only at hSw); go_simp; try (with_reducible rfl))
  simp only [Act.put, List.setIfInBounds_toArray, List.set_cons_zero, List.set_cons_succ]
  refine anyH_take 3 6 (v := ?v4) rfl rfl (by kernel_rfl) (by kernel_rfl) (by kernel_rfl) (fun _ _ _ h => h) (by rfl) ?h4 hHeld ?r4
  case h4 => (intro w hSw; (try dsimp only at hSw); go_simp; try (with_reducible rfl))
  simp only [Act.put, List.setIfInBounds_toArray, List.set_cons_zero, List.set_cons_succ]
  refine anyH_take 4 7 (v := ?v5) rfl rfl (by kernel_rfl) (by kernel_rfl) (by kernel_rfl) (fun _ _ _ h => h) (by rfl) ?h5 hHeld ?r5
  case h5 => (intro w hSw; (try dsimp only at hSw); go_simp; try (with_reducible rfl))
  simp only [Act.put, List.setIfInBounds_toArray, List.set_cons_zero, List.set_cons_succ]
  refine anyH_take 5 8 (v := ?v6) rfl rfl (by kernel_rfl) (by kernel_rfl) (by kernel_rfl) (fun _ _ _ h => h) (by rfl) ?h6 hHeld ?r6
  case h6 => (intro w hSw; (try dsimp only at hSw); go_simp; try (with_reducible rfl))
  simp only [Act.put, List.setIfInBounds_toArray, List.set_cons_zero, List.set_cons_succ]
  refine anyH_take 6 9 (v := ?v7) rfl rfl (by kernel_rfl) (by kernel_rfl) (by kernel_rfl) (fun _ _ _ h => h) (by rfl) ?h7 hHeld ?r7
  case h7 => (intro w hSw; (try dsimp only at hSw); go_simp; try (with_reducible rfl))
  simp only [Act.put, List.setIfInBounds_toArray, List.set_cons_zero, List.set_cons_succ]
  refine anyH_take 7 10 (v := ?v8) rfl rfl (by kernel_rfl) (by kernel_rfl) (by kernel_rfl) (fun _ _ _ h => h) (by rfl) ?h8 hHeld ?r8
  case h8 => (intro w hSw; (try dsimp only at hSw); go_simp; try (with_reducible rfl))
  simp only [Act.put, List.setIfInBounds_toArray, List.set_cons_zero, List.set_cons_succ]
  refine anyH_take 9 12 (v := ?v9) rfl rfl (by kernel_rfl) (by kernel_rfl) (by kernel_rfl) (fun _ _ _ h => h) (by rfl) ?h9 hHeld ?r9
  case h9 => (intro w hSw; (try dsimp only at hSw); go_simp; try (with_reducible rfl))
  simp only [Act.put, List.setIfInBounds_toArray, List.set_cons_zero, List.set_cons_succ]
  refine anyH_take 10 13 (v := ?v10) rfl rfl (by kernel_rfl) (by kernel_rfl) (by kernel_rfl) (fun _ _ _ h => h) (by rfl) ?h10 hHeld ?r10
  case h10 => (intro w hSw; (try dsimp only at hSw); go_simp; try (with_reducible rfl))
  simp only [Act.put, List.setIfInBounds_toArray, List.set_cons_zero, List.set_cons_succ]
  refine anyH_take 11 14 (v := ?v11) rfl rfl (by kernel_rfl) (by kernel_rfl) (by kernel_rfl) (fun _ _ _ h => h) (by rfl) ?h11 hHeld ?r11
  case h11 => (intro w hSw; (try dsimp only at hSw); go_simp; try (with_reducible rfl))
  simp only [Act.put, List.setIfInBounds_toArray, List.set_cons_zero, List.set_cons_succ]
  refine anyH_take 12 15 (v := ?v12) rfl rfl (by kernel_rfl) (by kernel_rfl) (by kernel_rfl) (fun _ _ _ h => h) (by rfl) ?h12 hHeld ?r12
  case h12 => (intro w hSw; (try dsimp only at hSw); go_simp; try (with_reducible rfl))
  simp only [Act.put, List.setIfInBounds_toArray, List.set_cons_zero, List.set_cons_succ]
  refine anyH_take 15 18 (v := ?v13) rfl rfl (by kernel_rfl) (by kernel_rfl) (by kernel_rfl) (fun _ _ _ h => h) (by rfl) ?h13 hHeld ?r13
  case h13 => (intro w hSw; (try dsimp only at hSw); go_simp; try (with_reducible rfl))
  simp only [Act.put, List.setIfInBounds_toArray, List.set_cons_zero, List.set_cons_succ]
  refine anyH_take 16 19 (v := ?v14) rfl rfl (by kernel_rfl) (by kernel_rfl) (by kernel_rfl) (fun _ _ _ h => h) (by rfl) ?h14 hHeld ?r14
  case h14 => (intro w hSw; (try dsimp only at hSw); go_simp; try (with_reducible rfl))
  simp only [Act.put, List.setIfInBounds_toArray, List.set_cons_zero, List.set_cons_succ]
  refine anyH_take 17 20 (v := ?v15) rfl rfl (by kernel_rfl) (by kernel_rfl) (by kernel_rfl) (fun _ _ _ h => h) (by rfl) ?h15 hHeld ?r15
  case h15 => (intro w hSw; (try dsimp only at hSw); go_simp; try (with_reducible rfl))
  simp only [Act.put, List.setIfInBounds_toArray, List.set_cons_zero, List.set_cons_succ]
  refine anyH_take 18 21 (v := ?v16) rfl rfl (by kernel_rfl) (by kernel_rfl) (by kernel_rfl) (fun _ _ _ h => h) (by rfl) ?h16 hHeld ?r16
  case h16 => (intro w hSw; (try dsimp only at hSw); go_simp; try (with_reducible rfl))
  simp only [Act.put, List.setIfInBounds_toArray, List.set_cons_zero, List.set_cons_succ]
  refine wpAnyH_ready (rs := [8, 13]) (by kernel_rfl) (by simp) ?_
  refine AllReadyH.cons rfl (fun K hK => ?_) (AllReadyH.cons rfl (fun K hK => ?_) AllReadyH.nil)
  · go_simp
    refine (unhide SL _ (unhide B0)).mono ?_
    rintro e u8 ⟨v4, rfl, oL, hb4⟩
    obtain ⟨⟨la4, ln4, lc4⟩, rfl, -⟩ := v_slice oL
    have OL := hide (gd_base oL (unhide Z0))
    have B8 := hide ((unhide B0).trans (hb4.mono (unhide B0).size))
    have K8 := hide ((hb4.block w.heap.size (blk_lt (unhide K0))).trans (unhide K0))
    have Z8 := hide (Nat.le_trans (unhide Z0) hb4.size)
    clear oL hb4
    refine hK.out _ _ (unhide SK _ (unhide B8)) (fun hHeld => ?_)
    clear hK K
    refine wpAnyH_ready (rs := [13]) (by kernel_rfl) (by simp) ?_
    refine AllReadyH.cons rfl (fun K hK => ?_) AllReadyH.nil
    have bA7 : Below u8.heap.size u8 (u8.alloc (.cells #[.slice fa fn fc] 24)) := (Below.refl _ _).alloc (Nat.le_refl _) _
    have C7 := hide (show (u8.alloc (.cells #[.slice fa fn fc] 24)).cell? ⟨u8.heap.size, 0, none⟩ = some (.slice fa fn fc) from (heap_at (heap_alloc_new _ _) 0).1)
    have B8_13 := hide ((unhide B8).trans (bA7.mono (unhide B8).size))
    have K8_13 := hide ((bA7.block w.heap.size (blk_lt (unhide K8))).trans (unhide K8))
    have Z8_13 := hide (Nat.le_trans (unhide Z8) bA7.size)
    have OL7 := hide (rb_ownsRow_below (unhide OL) bA7)
    go_simp
    generalize u8.alloc (.cells #[.slice fa fn fc] 24) = u8_13 at *
    generalize hq7 : u8.heap.size = o7 at *
    clear bA7
    refine hK.out _ _ (unhide SK _ (unhide B8_13)) (fun hHeld => ?_)
    clear hK K
    refine wpAnyH_ready (rs := [14]) (by kernel_rfl) (by simp) ?_
    refine AllReadyH.cons rfl (fun K hK => ?_) AllReadyH.nil
    go_simp
    refine (unhide SF _ _ (unhide B8_13) (unhide C7)).mono ?_
    rintro e u8_13_14 ⟨v8, rfl, oF, hb8⟩
    obtain ⟨⟨fa8, fn8, fc8⟩, rfl, -⟩ := v_slice oF
    have OF := hide (gd_base oF (unhide Z8_13))
    have OL8 := hide (rb_ownsRow_below (unhide OL7) hb8)
    have B8_13_14 := hide ((unhide B8_13).trans (hb8.mono (unhide B8_13).size))
    have K8_13_14 := hide ((hb8.block w.heap.size (blk_lt (unhide K8_13))).trans (unhide K8_13))
    have Z8_13_14 := hide (Nat.le_trans (unhide Z8_13) hb8.size)
    clear oF hb8
    refine hK.out _ _ (unhide SK _ (unhide B8_13_14)) (fun hHeld => ?_)
    clear hK K
    refine wpAnyH_ready (rs := [19]) (by kernel_rfl) (by simp) ?_
    refine AllReadyH.cons rfl (fun K hK => ?_) AllReadyH.nil
    go_simp
    refine (unhide SS _ (unhide B8_13_14)).mono ?_
    rintro e u8_13_14_19 ⟨⟨sa1, sn1, sc1⟩, hs1, rfl, oS, hX, hb11⟩
    have VZ := hide (show VzOwn u8_13_14_19 W.heap.size ⟨la4, ln4, lc4⟩ ⟨fa8, fn8, fc8⟩ ⟨sa1, sn1, sc1⟩ hs1 d from ⟨rb_ownsRow_below (unhide OL8) hb11, rb_ownsRow_below (unhide OF) hb11, oS.down (unhide Z8_13_14), hX.trans (unhide SSD), fun i hi hn => Nat.lt_irrefl _ (Nat.lt_of_lt_of_le ((unhide OL8).lt i hi).2 (oS.lt i hn).1)⟩)
    have B8_13_14_19 := hide ((unhide B8_13_14).trans (hb11.mono (unhide B8_13_14).size))
    have K8_13_14_19 := hide ((hb11.block w.heap.size (blk_lt (unhide K8_13_14))).trans (unhide K8_13_14))
    have Z8_13_14_19 := hide (Nat.le_trans (unhide Z8_13_14) hb11.size)
    clear oS hX hb11
    refine hK.out _ _ (unhide SK _ (unhide B8_13_14_19)) (fun hHeld => ?_)
    clear hK K
    refine anyH_take 20 23 (v := ?v17) rfl rfl (by kernel_rfl) (by kernel_rfl) (by kernel_rfl) (fun _ _ _ h => h) (by rfl) ?h17 hHeld ?r17
    case h17 => (intro w hSw; (try dsimp only at hSw); go_simp; try (with_reducible rfl))
    simp only [Act.put, List.setIfInBounds_toArray, List.set_cons_zero, List.set_cons_succ]
    refine wpAnyH_ready (rs := [21]) (by kernel_rfl) (by simp) ?_
    refine AllReadyH.cons rfl (fun K hK => ?_) AllReadyH.nil
    have RES := hide (((unhide VZ).sv (b := w.heap.size) hz0 (.int .i64 d.next) (.slice la4 ln4 lc4) (.slice fa8 fn8 fc8) (.slice sa1 sn1 sc1)).dn (Nat.le_of_lt hz0))
    have BE := hide (bel_sv4 (unhide B8_13_14_19) (Nat.le_refl _) (.int .i64 d.next) (.slice la4 ln4 lc4) (.slice fa8 fn8 fc8) (.slice sa1 sn1 sc1))
    have KE := hide (sv4_heap (unhide K8_13_14_19) (.int .i64 d.next) (.slice la4 ln4 lc4) (.slice fa8 fn8 fc8) (.slice sa1 sn1 sc1))
    have y0 := (heap_at (unhide K8_13_14_19) 0).1
    have y1 := (heap_at (unhide K8_13_14_19) 1).1
    have y2 := (heap_at (unhide K8_13_14_19) 2).1
    have y3 := (heap_at (unhide K8_13_14_19) 3).1
    simp only [List.getElem?_toArray, List.getElem?_cons_zero, List.getElem?_cons_succ] at y0 y1 y2 y3
    have f0 := (heap_at (unhide K8_13_14_19) 0).2
    have f1 := (heap_at (unhide K8_13_14_19) 1).2
    have f2 := (heap_at (unhide K8_13_14_19) 2).2
    have f3 := (heap_at (unhide K8_13_14_19) 3).2
    unfold sv4 at RES BE KE
    go_simp
    clear y0 y1 y2 y3 f0 f1 f2 f3
    refine hK.out _ _ (unhide SK _ (unhide BE)) (fun hHeld => ?_)
    clear hK K
    refine wpAnyH_done (by kernel_rfl) ?_ _
    clear hHeld SK SL SF SS
    generalize (((u8_13_14_19.setCell ⟨w.heap.size, 0, none⟩ (.int .i64 d.next)).setCell ⟨w.heap.size, 1, none⟩ (.slice la4 ln4 lc4)).setCell ⟨w.heap.size, 2, none⟩ (.slice fa8 fn8 fc8)).setCell ⟨w.heap.size, 3, none⟩ (.slice sa1 sn1 sc1) = uE at *
    have x0 := (heap_at (unhide KE) 0).1
    have x1 := (heap_at (unhide KE) 1).1
    have x2 := (heap_at (unhide KE) 2).1
    have x3 := (heap_at (unhide KE) 3).1
    simp only [List.getElem?_toArray, List.getElem?_cons_zero, List.getElem?_cons_succ] at x0 x1 x2 x3
    go_wp2_with fail
    refine bodyPost_ret (v := .agg #[.int .i64 d.next, .slice la4 ln4 lc4, .slice fa8 fn8 fc8, .slice sa1 sn1 sc1]) (by simp [results, Tryz.results38, go_sem, *]) rfl ?_
    exact ⟨⟨la4, ln4, lc4⟩, ⟨fa8, fn8, fc8⟩, ⟨sa1, sn1, sc1⟩, hs1, rfl, unhide RES, unhide BE⟩
  · have bA7 : Below u0.heap.size u0 (u0.alloc (.cells #[.slice fa fn fc] 24)) := (Below.refl _ _).alloc (Nat.le_refl _) _
    have C7 := hide (show (u0.alloc (.cells #[.slice fa fn fc] 24)).cell? ⟨u0.heap.size, 0, none⟩ = some (.slice fa fn fc) from (heap_at (heap_alloc_new _ _) 0).1)
    have B13 := hide ((unhide B0).trans (bA7.mono (unhide B0).size))
    have K13 := hide ((bA7.block w.heap.size (blk_lt (unhide K0))).trans (unhide K0))
    have Z13 := hide (Nat.le_trans (unhide Z0) bA7.size)
    go_simp
    generalize u0.alloc (.cells #[.slice fa fn fc] 24) = u13 at *
    generalize hq7 : u0.heap.size = o7 at *
    clear bA7
    refine hK.out _ _ (unhide SK _ (unhide B13)) (fun hHeld => ?_)
    clear hK K
    refine wpAnyH_ready (rs := [8]) (by kernel_rfl) (by simp) ?_
    refine AllReadyH.cons rfl (fun K hK => ?_) AllReadyH.nil
    go_simp
    refine (unhide SL _ (unhide B13)).mono ?_
    rintro e u13_8 ⟨v4, rfl, oL, hb4⟩
    obtain ⟨⟨la4, ln4, lc4⟩, rfl, -⟩ := v_slice oL
    have OL := hide (gd_base oL (unhide Z13))
    have B13_8 := hide ((unhide B13).trans (hb4.mono (unhide B13).size))
    have K13_8 := hide ((hb4.block w.heap.size (blk_lt (unhide K13))).trans (unhide K13))
    have Z13_8 := hide (Nat.le_trans (unhide Z13) hb4.size)
    have C8 := hide ((hb4.cell (p := ⟨o7, 0, none⟩) (cell_lt (unhide C7))).trans (unhide C7))
    clear oL hb4
    refine hK.out _ _ (unhide SK _ (unhide B13_8)) (fun hHeld => ?_)
    clear hK K
    refine wpAnyH_ready (rs := [14]) (by kernel_rfl) (by simp) ?_
    refine AllReadyH.cons rfl (fun K hK => ?_) AllReadyH.nil
    go_simp
    refine (unhide SF _ _ (unhide B13_8) (unhide C8)).mono ?_
    rintro e u13_8_14 ⟨v8, rfl, oF, hb8⟩
    obtain ⟨⟨fa8, fn8, fc8⟩, rfl, -⟩ := v_slice oF
    have OF := hide (gd_base oF (unhide Z13_8))
    have OL8 := hide (rb_ownsRow_below (unhide OL) hb8)
    have B13_8_14 := hide ((unhide B13_8).trans (hb8.mono (unhide B13_8).size))
    have K13_8_14 := hide ((hb8.block w.heap.size (blk_lt (unhide K13_8))).trans (unhide K13_8))
    have Z13_8_14 := hide (Nat.le_trans (unhide Z13_8) hb8.size)
    clear oF hb8
    refine hK.out _ _ (unhide SK _ (unhide B13_8_14)) (fun hHeld => ?_)
    clear hK K
    refine wpAnyH_ready (rs := [19]) (by kernel_rfl) (by simp) ?_
    refine AllReadyH.cons rfl (fun K hK => ?_) AllReadyH.nil
    go_simp
    refine (unhide SS _ (unhide B13_8_14)).mono ?_
    rintro e u13_8_14_19 ⟨⟨sa1, sn1, sc1⟩, hs1, rfl, oS, hX, hb11⟩
    have VZ := hide (show VzOwn u13_8_14_19 W.heap.size ⟨la4, ln4, lc4⟩ ⟨fa8, fn8, fc8⟩ ⟨sa1, sn1, sc1⟩ hs1 d from ⟨rb_ownsRow_below (unhide OL8) hb11, rb_ownsRow_below (unhide OF) hb11, oS.down (unhide Z13_8_14), hX.trans (unhide SSD), fun i hi hn => Nat.lt_irrefl _ (Nat.lt_of_lt_of_le ((unhide OL8).lt i hi).2 (oS.lt i hn).1)⟩)
    have B13_8_14_19 := hide ((unhide B13_8_14).trans (hb11.mono (unhide B13_8_14).size))
    have K13_8_14_19 := hide ((hb11.block w.heap.size (blk_lt (unhide K13_8_14))).trans (unhide K13_8_14))
    have Z13_8_14_19 := hide (Nat.le_trans (unhide Z13_8_14) hb11.size)
    clear oS hX hb11
    refine hK.out _ _ (unhide SK _ (unhide B13_8_14_19)) (fun hHeld => ?_)
    clear hK K
    refine anyH_take 20 23 (v := ?v18) rfl rfl (by kernel_rfl) (by kernel_rfl) (by kernel_rfl) (fun _ _ _ h => h) (by rfl) ?h18 hHeld ?r18
    case h18 => (intro w hSw; (try dsimp only at hSw); go_simp; try (with_reducible rfl))
    simp only [Act.put, List.setIfInBounds_toArray, List.set_cons_zero, List.set_cons_succ]
    refine wpAnyH_ready (rs := [21]) (by kernel_rfl) (by simp) ?_
    refine AllReadyH.cons rfl (fun K hK => ?_) AllReadyH.nil
    have RES := hide (((unhide VZ).sv (b := w.heap.size) hz0 (.int .i64 d.next) (.slice la4 ln4 lc4) (.slice fa8 fn8 fc8) (.slice sa1 sn1 sc1)).dn (Nat.le_of_lt hz0))
    have BE := hide (bel_sv4 (unhide B13_8_14_19) (Nat.le_refl _) (.int .i64 d.next) (.slice la4 ln4 lc4) (.slice fa8 fn8 fc8) (.slice sa1 sn1 sc1))
    have KE := hide (sv4_heap (unhide K13_8_14_19) (.int .i64 d.next) (.slice la4 ln4 lc4) (.slice fa8 fn8 fc8) (.slice sa1 sn1 sc1))
    have y0 := (heap_at (unhide K13_8_14_19) 0).1
    have y1 := (heap_at (unhide K13_8_14_19) 1).1
    have y2 := (heap_at (unhide K13_8_14_19) 2).1
    have y3 := (heap_at (unhide K13_8_14_19) 3).1
    simp only [List.getElem?_toArray, List.getElem?_cons_zero, List.getElem?_cons_succ] at y0 y1 y2 y3
    have f0 := (heap_at (unhide K13_8_14_19) 0).2
    have f1 := (heap_at (unhide K13_8_14_19) 1).2
    have f2 := (heap_at (unhide K13_8_14_19) 2).2
    have f3 := (heap_at (unhide K13_8_14_19) 3).2
    unfold sv4 at RES BE KE
    go_simp
    clear y0 y1 y2 y3 f0 f1 f2 f3
    refine hK.out _ _ (unhide SK _ (unhide BE)) (fun hHeld => ?_)
    clear hK K
    refine wpAnyH_done (by kernel_rfl) ?_ _
    clear hHeld SK SL SF SS
    generalize (((u13_8_14_19.setCell ⟨w.heap.size, 0, none⟩ (.int .i64 d.next)).setCell ⟨w.heap.size, 1, none⟩ (.slice la4 ln4 lc4)).setCell ⟨w.heap.size, 2, none⟩ (.slice fa8 fn8 fc8)).setCell ⟨w.heap.size, 3, none⟩ (.slice sa1 sn1 sc1) = uE at *
    have x0 := (heap_at (unhide KE) 0).1
    have x1 := (heap_at (unhide KE) 1).1
    have x2 := (heap_at (unhide KE) 2).1
    have x3 := (heap_at (unhide KE) 3).1
    simp only [List.getElem?_toArray, List.getElem?_cons_zero, List.getElem?_cons_succ] at x0 x1 x2 x3
    go_wp2_with fail
    refine bodyPost_ret (v := .agg #[.int .i64 d.next, .slice la4 ln4 lc4, .slice fa8 fn8 fc8, .slice sa1 sn1 sc1]) (by simp [results, Tryz.results38, go_sem, *]) rfl ?_
    exact ⟨⟨la4, ln4, lc4⟩, ⟨fa8, fn8, fc8⟩, ⟨sa1, sn1, sc1⟩, hs1, rfl, unhide RES, unhide BE⟩
end Go.Proofs.YtfajenejngddeaaGreat

namespace Go.Proofs.YtfajenejngddeaaGreat
open Go.RowKit

theorem infoI64 : (Tryz.prog.info? 3).map (fun i => (i.zero, i.size, i.bytes)) = some (some (.int .i64 0), 1, 8) := by kernel_rfl
abbrev NOwns (w : World) (B : Nat) (v : Value) (xs : List Int) : Prop := w.ownsRow B 3 1 v xs.length (xs.map (Value.int .i64))
theorem NOwns.nil (w : World) (B : Nat) : NOwns w B (.slice none 0 0) [] := World.ownsRow_nil _ _ _ _
theorem NOwns.down {w : World} {B C : Nat} {v : Value} {xs : List Int} (h : NOwns w B v xs) (hc : C ≤ B) : NOwns w C v xs := by
  refine ⟨h.1, ?_⟩
  rcases h.2 with h | ⟨g, cap, cur, e, hb, r⟩
  · exact .inl h
  · exact .inr ⟨g, cap, cur, e, Nat.le_trans hc hb, r⟩
end Go.Proofs.YtfajenejngddeaaGreat

namespace Go.Proofs.YtfajenejngddeaaGreat
open Go.RowKit

theorem met_parts {P : Program} {t : TypeId} {name : String} {p : Array FieldStep} {f : Option (FuncId × Bool)} (h : ((P.info? t).bind fun i => i.methods.find? (·.name == name)).map (fun m => (m.path, m.func)) = some (p, f)) : ∃ i m, P.info? t = some i ∧ i.methods.find? (·.name == name) = some m ∧ m.path = p ∧ m.func = f := by
  cases h1 : P.info? t with
  | none => rw [h1] at h; cases h
  | some i =>
    rw [h1] at h
    cases h2 : i.methods.find? (·.name == name) with
    | none => simp [h2] at h
    | some m =>
      simp [h2] at h
      exact ⟨i, m, rfl, h2, h.1, h.2⟩
theorem wrap_ptr {P : Program} (xt : TypeId) (x : Addr) (s name : String) (w : World) : (Builtin.ssaWrapNilChk_ #[xt] xt #[.pointer (some x), strVal s, strVal name]).run P w = .ok (.pointer (some x)) w := by rfl
theorem met_len : ((Tryz.prog.info? 130).bind fun i => i.methods.find? (·.name == "Len")).map (fun m => (m.path, m.func)) = some (#[], some (162, false)) := by kernel_rfl
theorem met_less : ((Tryz.prog.info? 130).bind fun i => i.methods.find? (·.name == "Less")).map (fun m => (m.path, m.func)) = some (#[], some (163, false)) := by kernel_rfl
theorem met_swap : ((Tryz.prog.info? 130).bind fun i => i.methods.find? (·.name == "Swap")).map (fun m => (m.path, m.func)) = some (#[], some (166, false)) := by kernel_rfl
set_option maxRecDepth 100000 in
theorem m_len (hb : Nat) (w : World) (a : Option Addr) (n c : Nat) (h : w.cell? ⟨hb, 0, none⟩ = some (.slice a n c)) : (method 317 130 (.pointer (some ⟨hb, 0, none⟩)) "Len").run Tryz.prog w = .ok (162, .slice a n c) w := by
  obtain ⟨i, m, h1, h2, h3, h4⟩ := met_parts met_len
  rw [method]
  simp [typeInfo, h1, h2, h3, h4, follow, receiverAt, run_underlying Tryz.underlying130, Place.get, wrap_ptr, loadVar, go_sem]
  rw [h]
  rfl
set_option maxRecDepth 100000 in
theorem m_less (hb : Nat) (w : World) (a : Option Addr) (n c : Nat) (h : w.cell? ⟨hb, 0, none⟩ = some (.slice a n c)) : (method 317 130 (.pointer (some ⟨hb, 0, none⟩)) "Less").run Tryz.prog w = .ok (163, .slice a n c) w := by
  obtain ⟨i, m, h1, h2, h3, h4⟩ := met_parts met_less
  rw [method]
  simp [typeInfo, h1, h2, h3, h4, follow, receiverAt, run_underlying Tryz.underlying130, Place.get, wrap_ptr, loadVar, go_sem]
  rw [h]
  rfl
set_option maxRecDepth 100000 in
theorem m_swap (hb : Nat) (w : World) (a : Option Addr) (n c : Nat) (h : w.cell? ⟨hb, 0, none⟩ = some (.slice a n c)) : (method 317 130 (.pointer (some ⟨hb, 0, none⟩)) "Swap").run Tryz.prog w = .ok (166, .slice a n c) w := by
  obtain ⟨i, m, h1, h2, h3, h4⟩ := met_parts met_swap
  rw [method]
  simp [typeInfo, h1, h2, h3, h4, follow, receiverAt, run_underlying Tryz.underlying130, Place.get, wrap_ptr, loadVar, go_sem]
  rw [h]
  rfl
set_option maxRecDepth 100000 in
theorem m_push (hb : Nat) (w : World) : (method 317 130 (.pointer (some ⟨hb, 0, none⟩)) "Push").run Tryz.prog w = .ok (165, .pointer (some ⟨hb, 0, none⟩)) w := by kernel_rfl
set_option maxRecDepth 100000 in
theorem m_pop (hb : Nat) (w : World) : (method 317 130 (.pointer (some ⟨hb, 0, none⟩)) "Pop").run Tryz.prog w = .ok (164, .pointer (some ⟨hb, 0, none⟩)) w := by kernel_rfl
/-- A heap of times behind a pointer. -/
structure HpAt (w : World) (B hb g n c : Nat) (xs : List Int) : Prop where
  box : w.heap[hb]? = some (.cells #[.slice (some ⟨g, 0, none⟩) n c] 132 (0, 0))
  own : w.ownsRow B 3 1 (.slice (some ⟨g, 0, none⟩) n c) n (xs.map (Value.int .i64))
  ge : B ≤ hb
  len : xs.length = n
theorem HpAt.at {w : World} {B hb g n c : Nat} {xs : List Int} (h : HpAt w B hb g n c xs) {i : Nat} (hi : i < n) : w.cell? ⟨g, i, none⟩ = some (.int .i64 (gx xs i)) := by
  have hl := h.len
  have := h.own.cellAt i (by omega)
  rw [this, List.getElem?_map, List.getElem?_eq_getElem (by omega), gx_at (by omega)]
  rfl
theorem HpAt.fz {w : World} {B hb g n c : Nat} {xs : List Int} (h : HpAt w B hb g n c xs) (i : Nat) : w.frozen? ⟨g, i, none⟩ = false := h.own.frozenAt i
theorem HpAt.gB {w : World} {B hb g n c : Nat} {xs : List Int} (h : HpAt w B hb g n c xs) : B ≤ g ∧ g < w.heap.size := h.own.lt g rfl
theorem HpAt.ne {w : World} {B hb g n c : Nat} {xs : List Int} (h : HpAt w B hb g n c xs) : hb ≠ g := fun e => by
  rcases h.own.2 with ⟨e2, _⟩ | ⟨g', cap, cur, e2, _, hh, _⟩
  · cases e2
  · injection e2 with e2
    injection e2 with e2
    injection e2 with e2 _ _
    rw [← e2, ← e, h.box] at hh
    injection hh with hh
    injection hh with _ hh _
    exact absurd hh (by decide)
theorem HpAt.cell {w : World} {B hb g n c : Nat} {xs : List Int} (h : HpAt w B hb g n c xs) : w.cell? ⟨hb, 0, none⟩ = some (.slice (some ⟨g, 0, none⟩) n c) := by simp [World.cell?, h.box]
theorem HpAt.drewN {w : World} {B hb g n c : Nat} {xs : List Int} (h : HpAt w B hb g n c xs) (q : Nat) : HpAt (w.drewN q) B hb g n c xs := ⟨h.box, h.own, h.ge, h.len⟩
/-- One number set anew. -/
theorem HpAt.set {w : World} {B hb g n c : Nat} {xs : List Int} (h : HpAt w B hb g n c xs) (i : Nat) (x : Int) : HpAt (w.setCell ⟨g, i, none⟩ (.int .i64 x)) B hb g n c (xs.set i x) := by
  refine ⟨(Below.heap_setCell _ _ _ _ h.ne).trans h.box, ?_, h.ge, by rw [List.length_set]; exact h.len⟩
  rw [List.map_set]
  exact (World.ownsRow.stored h.own i (.int .i64 x)).1
set_option maxHeartbeats 1000000 in
theorem hpLen_any (a : Option Addr) (n c : Nat) (w : World) : Calls Tryz.prog 162 #[.slice a n c] w fun e w' => e = .returned (.int .i64 (n : Int)) ∧ w' = w := by
  go_enter Tryz.func162, Tryz.ntmps162
  go_wp2_with fail
  go_ret
  exact ⟨rfl, rfl⟩
set_option maxHeartbeats 1000000 in
theorem hpLess_any (B hb g n c i j : Nat) (xs : List Int) (w : World) (h : HpAt w B hb g n c xs) (hi : i < n) (hj : j < n) : Calls Tryz.prog 163 #[.slice (some ⟨g, 0, none⟩) n c, .int .i64 (i : Int), .int .i64 (j : Int)] w fun e w' => e = .returned (.bool (decide (gx xs i < gx xs j))) ∧ ∃ q, w' = w.drewN q := by
  have c1 := h.at hi
  have c2 := h.at hj
  have hi' : (i : Int) < (n : Int) := by omega
  have hj' : (j : Int) < (n : Int) := by omega
  clear h
  generalize gx xs i = x at *
  generalize gx xs j = y at *
  go_enter Tryz.func163, Tryz.ntmps163
  go_upto_region 1 with fail
  go_quiet (fail)
  go_wp2_with fail
  go_ret
  exact ⟨rfl, _, rfl⟩
set_option maxHeartbeats 4000000 in
theorem hpSwap_any (B hb g n c i j : Nat) (xs : List Int) (w : World) (h : HpAt w B hb g n c xs) (hi : i < n) (hj : j < n) : Calls Tryz.prog 166 #[.slice (some ⟨g, 0, none⟩) n c, .int .i64 (i : Int), .int .i64 (j : Int)] w fun e w' => e = .returned (.tuple #[]) ∧ HpAt w' B hb g n c (swL xs i j) ∧ Below B w w' := by
  have c1 := h.at hi
  have c2 := h.at hj
  have f1 := h.fz i
  have f2 := h.fz j
  have hi' : (i : Int) < (n : Int) := by omega
  have hj' : (j : Int) < (n : Int) := by omega
  have c3 := (h.set i (gx xs j)).at hj
  have f3 := (h.set i (gx xs j)).fz j
  have RES := hide (show HpAt ((w.setCell ⟨g, i, none⟩ (.int .i64 (gx xs j))).setCell ⟨g, j, none⟩ (.int .i64 (gx xs i))).drew B hb g n c (swL xs i j) from ((h.set i (gx xs j)).set j (gx xs i)).drewN 1)
  have BB := hide (show Below B w ((w.setCell ⟨g, i, none⟩ (.int .i64 (gx xs j))).setCell ⟨g, j, none⟩ (.int .i64 (gx xs i))).drew from (((Below.refl B w).setCell (p := ⟨g, i, none⟩) h.gB.1 _).setCell (p := ⟨g, j, none⟩) h.gB.1 _).drew)
  clear h
  generalize gx (xs.set i (gx xs j)) j = z at *
  generalize gx xs i = x at *
  generalize gx xs j = y at *
  go_enter Tryz.func166, Tryz.ntmps166
  go_region
  go_wp2_with fail
  go_end0
  exact ⟨rfl, unhide RES, unhide BB⟩
set_option maxRecDepth 100000 in
set_option maxHeartbeats 4000000 in
/-- The last finds its place. -/
theorem hpUp_any (B hb g n c j : Nat) (xs : List Int) (m : Int) (w : World) (h : HpAt w B hb g n c xs) (hj : j < n) (hn : n ≤ 100) (hu : UpL xs j) (hm : MinL xs m) :
    Calls Tryz.prog 115 #[.iface 130 (.pointer (some ⟨hb, 0, none⟩)), .int .i64 (j : Int)] w fun e w' => e = .returned (.tuple #[]) ∧ ∃ xs', HpAt w' B hb g n c xs' ∧ HeapL xs' ∧ MinL xs' m ∧ Below B w w' := by
  have ST := hide (show ∃ k ys, (j : Int) = (k : Nat) ∧ k < n ∧ Hid (HpAt w B hb g n c ys ∧ UpL ys k ∧ MinL ys m ∧ Below B w w) from ⟨j, xs, rfl, hj, hide ⟨h, hu, hm, Below.refl _ _⟩⟩)
  clear h hu hm hj
  generalize (j : Int) = j0 at *
  go_enter Tryz.func115, Tryz.ntmps115
  go_wp2_with fail
  go_loopw [1] (fun jv wr => ∃ (k : Nat) (ys : List Int), jv = .int .i64 (k : Int) ∧ k < n ∧ Hid (HpAt wr B hb g n c ys ∧ UpL ys k ∧ MinL ys m ∧ Below B w wr)) (fun jv _ => (intOf jv).toNat)
  case atStart =>
    obtain ⟨k, ys, e, hk, hH⟩ := unhide ST
    exact ⟨k, ys, by rw [e], hk, hH⟩
  case round =>
    clear ST
    obtain ⟨k, ys, rfl, hk, hH⟩ := hrel
    obtain ⟨hA, hU, hM, hB⟩ := unhide hH
    have hl := hA.len
    by_cases h0 : k = 0
    · subst h0
      have q0 : Int.tdiv (-1) 2 = 0 := by decide
      have RES := hide (show ∃ xs', HpAt wr B hb g n c xs' ∧ HeapL xs' ∧ MinL xs' m ∧ Below B w wr from ⟨ys, hA, hU.zero, hM, hB⟩)
      clear hH hA hU hM hB
      go_wp2_with fail
      go_end0
      exact ⟨rfl, unhide RES⟩
    · obtain ⟨p, hp⟩ : ∃ p, p = (k - 1) / 2 := ⟨_, rfl⟩
      have hpk : p < k := by omega
      have q1 : IntKind.i64.wrap ((k : Int) - 1) = ((k - 1 : Nat) : Int) := by rw [IntKind.wrap_i64]; omega
      have q2 : Int.tdiv ((k - 1 : Nat) : Int) 2 = (p : Int) := by rw [hp, Int.tdiv_eq_ediv_of_nonneg (by omega)]; omega
      have q3 : ((p : Int) == (k : Int)) = false := by rw [beq_eq_false_iff_ne]; omega
      have ML := m_less hb wr (some ⟨g, 0, none⟩) n c hA.cell
      have CL := hide (hpLess_any B hb g n c k p ys wr hA hk (by omega))
      by_cases hs : gx ys k < gx ys p
      · have RS := hide (show UpL (swL ys p k) p ∧ MinL (swL ys p k) m from ⟨by rw [hp]; exact hU.step (by omega) (by omega) (by rw [← hp]; exact hs), hM.sw (by omega) (by omega)⟩)
        have HA := hide hA
        have HB := hide hB
        rw [decide_eq_true hs] at CL
        clear hH hA hU hM hB hp hs h0 hl
        go_wp2_with fail
        refine (unhide CL).mono ?_
        rintro e w1 ⟨rfl, q, hw1⟩
        subst w1
        have H1 := hide ((unhide HA).drewN q)
        have B1 := hide (bel_drewN (unhide HB) q)
        have MS := m_swap hb (wr.drewN q) (some ⟨g, 0, none⟩) n c (unhide H1).cell
        have CS := hide (hpSwap_any B hb g n c p k ys (wr.drewN q) (unhide H1) (by omega) hk)
        clear ML CL HA HB H1
        go_wp2_with fail
        refine (unhide CS).mono ?_
        rintro e w2 ⟨rfl, h2, b2⟩
        have Z := hide (show HpAt w2 B hb g n c (swL ys p k) ∧ UpL (swL ys p k) p ∧ MinL (swL ys p k) m ∧ Below B w w2 from ⟨h2, (unhide RS).1, (unhide RS).2, (unhide B1).trans b2⟩)
        clear h2 b2 RS B1 CS MS
        go_wp2_with fail
        go_roundw
        case rel => exact ⟨p, _, rfl, by omega, Z⟩
        case measure => simp [intOf]; omega
      · have RES := hide (show HeapL ys from hU.stop (by rw [← hp]; omega))
        have HA := hide hA
        have HM := hide hM
        have HB := hide hB
        rw [decide_eq_false hs] at CL
        clear hH hA hU hM hB hp hs h0 hl
        go_wp2_with fail
        refine (unhide CL).mono ?_
        rintro e w1 ⟨rfl, q, hw1⟩
        subst w1
        have Z := hide (show ∃ xs', HpAt (wr.drewN q) B hb g n c xs' ∧ HeapL xs' ∧ MinL xs' m ∧ Below B w (wr.drewN q) from ⟨ys, (unhide HA).drewN q, unhide RES, unhide HM, bel_drewN (unhide HB) q⟩)
        clear ML CL HA HB HM RES
        go_wp2_with fail
        go_end0
        exact ⟨rfl, unhide Z⟩
end Go.Proofs.YtfajenejngddeaaGreat

namespace Go.Proofs.YtfajenejngddeaaGreat
open Go.RowKit

/-- A number put behind the others. -/
theorem hp_app {w : World} {B hb g n c : Nat} {xs : List Int} (h : HpAt w B hb g n c xs) (x : Int) (hz : n ≤ 1000) (hB : B ≤ w.heap.size) :
    ∃ g' c' w', (Builtin.append_ #[132, 132] 132 #[.slice (some ⟨g, 0, none⟩) n c, .slice (some ⟨w.heap.size, 0, none⟩) 1 1]).run Tryz.prog (w.alloc (.cells #[.int .i64 x] 3)) = .ok (.slice (some ⟨g', 0, none⟩) (n + 1) c') w' ∧ w'.ownsRow B 3 1 (.slice (some ⟨g', 0, none⟩) (n + 1) c') (n + 1) ((xs ++ [x]).map (Value.int .i64)) ∧ w'.heap[hb]? = some (.cells #[.slice (some ⟨g, 0, none⟩) n c] 132 (0, 0)) ∧ Below B w w' ∧ g' ≠ hb := by
  obtain ⟨i0, hi0, hz0, hz1, hz2⟩ := info_parts infoI64
  obtain ⟨W, hW⟩ : ∃ W, W = w.alloc (.cells #[.int .i64 x] 3) := ⟨_, rfl⟩
  have bA : Below w.heap.size w W := by rw [hW]; exact (Below.refl _ _).alloc (Nat.le_refl _) _
  have zW : W.heap.size = w.heap.size + 1 := by rw [hW]; simp
  have hcells : ∀ j u, ([Value.int .i64 x])[j]? = some u → W.cell? ((⟨w.heap.size, 0, none⟩ : Addr).add j) = some u := fun j u hu => by
    have hj : j < 1 := by simpa using (List.getElem?_eq_some_iff.1 hu).1
    obtain rfl : j = 0 := by omega
    have e2 : (⟨w.heap.size, 0, none⟩ : Addr).add 0 = ⟨w.heap.size, 0, none⟩ := by unfold Addr.add; split <;> simp_all
    rw [e2, hW]
    exact rb_cell_new rfl (by simpa using hu)
  have hoa := rb_ownsRow_below h.own bA
  have hhb : hb < w.heap.size := (Array.getElem?_eq_some_iff.1 h.box).1
  rw [← hW]
  obtain ⟨v', w', hrun, ho', hg, hn, hloc⟩ := app_at (P := Tryz.prog) (w := W) (B := B) 132 132 3 Tryz.underlying132 hi0 hz0 hz1 hz2 rfl (by decide) hoa ⟨w.heap.size, 0, none⟩ 1 1 [Value.int .i64 x] (by simp) hcells (by simp [Value.oneCell']) (by unfold maxLen; omega) (by omega) (by omega) (fun _ => by omega)
  obtain ⟨g', c', rfl, hbg, hg', hc'⟩ : ∃ g' c', v' = .slice (some ⟨g', 0, none⟩) (n + 1) c' ∧ B ≤ g' ∧ g' < w'.heap.size ∧ True := by
    rcases ho'.2 with ⟨e, _⟩ | ⟨g', cap, cur, e, hb, hh, _⟩
    · exact absurd e hn
    · exact ⟨g', cap, e, hb, (Array.getElem?_eq_some_iff.1 hh).1, trivial⟩
  refine ⟨g', c', w', hrun, by rw [List.map_append]; exact ho', ?_, ?_, ?_⟩
  · exact (hg.block hb (by omega) (fun e => h.ne (by injection e))).trans ((bA.block hb hhb).trans h.box)
  · have hs := hg.size
    exact ⟨hg.os.trans bA.os, hg.tape.trans bA.tape, hg.output.trans bA.output, by omega, fun k hk => (hg.block k (by omega) (fun e => by have := h.gB.1; injection e with e; simp only at e; omega)).trans (bA.block k (by omega))⟩
  · intro e
    rcases hloc with e2 | e2
    · injection e2 with e2
      exact h.ne (by simp only at e2; omega)
    · injection e2 with e2
      simp only at e2
      omega
theorem as_int (x : Int) (w : World) : (Instr.typeAssert (.iface 3 (.int .i64 x)) 20 3 false).run Tryz.prog w = .ok (.int .i64 x) w := by kernel_rfl
set_option maxRecDepth 100000 in
set_option maxHeartbeats 4000000 in
theorem hpPush1_any (B hb g n c : Nat) (xs : List Int) (x : Int) (w : World) (h : HpAt w B hb g n c xs) (hn : n ≤ 100) (hB : B ≤ w.heap.size) :
    Calls Tryz.prog 165 #[.pointer (some ⟨hb, 0, none⟩), .iface 3 (.int .i64 x)] w fun e w' => e = .returned (.tuple #[]) ∧ ∃ g' c', HpAt w' B hb g' (n + 1) c' (xs ++ [x]) ∧ Below B w w' := by
  obtain ⟨g', c', w1, hrun, hO, hx, hb1, hne⟩ := hp_app (w := w.drew) (h.drewN 1) x (by omega) hB
  have c0 := h.cell
  have ti := as_int x
  have RES := hide (show HpAt (w1.setCell ⟨hb, 0, none⟩ (.slice (some ⟨g', 0, none⟩) (n + 1) c')) B hb g' (n + 1) c' (xs ++ [x]) from ⟨heap_set hx 0 _, own_keep hO hx (by decide) (set1_wr _ _ _ _), h.ge, by rw [List.length_append, h.len]; rfl⟩)
  have BB := hide (show Below B w (w1.setCell ⟨hb, 0, none⟩ (.slice (some ⟨g', 0, none⟩) (n + 1) c')) from ((Below.refl B w).drew.trans hb1).setCell (p := ⟨hb, 0, none⟩) h.ge _)
  have cA := ((Below.refl w.heap.size w).alloc (Nat.le_refl _) (.cells #[.int .i64 x] 3)).cell (p := ⟨hb, 0, none⟩) (cell_lt c0) |>.trans c0
  have d1 := (heap_at hx 0).1
  have f1 := (heap_at hx 0).2
  clear h hO hb1 hx
  go_enter Tryz.func165, Tryz.ntmps165
  -- PUSHREGION
  refine wp_region_held_drew (S := (fun _ => True)) (by kernel_rfl) (trivial) (fun hHeld => ?_)
  refine anyH_take 0 4 (v := ?v1) rfl rfl (by kernel_rfl) (by kernel_rfl) (by kernel_rfl) (fun _ _ _ h => h) (by rfl) ?h1 hHeld ?r1
  case h1 => (intro w hSw; (try dsimp only at hSw); go_simp; try (with_reducible rfl))
  simp only [Act.put, List.setIfInBounds_toArray, List.set_cons_zero, List.set_cons_succ]
  refine anyH_take 1 5 (v := ?v2) rfl rfl (by kernel_rfl) (by kernel_rfl) (by kernel_rfl) (fun _ _ _ h => h) (by rfl) ?h2 hHeld ?r2
  case h2 => (intro w hSw; (try dsimp only at hSw); go_simp; try (with_reducible rfl))
  simp only [Act.put, List.setIfInBounds_toArray, List.set_cons_zero, List.set_cons_succ]
  refine anyH_take 2 6 (v := ?v3) rfl rfl (by kernel_rfl) (by kernel_rfl) (by kernel_rfl) (fun _ _ _ h => h) (by rfl) ?h3 hHeld ?r3
  case h3 => (intro w hSw; (try dsimp only at hSw); go_simp; try (with_reducible rfl))
  simp only [Act.put, List.setIfInBounds_toArray, List.set_cons_zero, List.set_cons_succ]
  refine anyH_take 4 8 (v := ?v4) rfl rfl (by kernel_rfl) (by kernel_rfl) (by kernel_rfl) (fun _ _ _ h => h) (by rfl) ?h4 hHeld ?r4
  case h4 => (intro w hSw; (try dsimp only at hSw); go_simp; try (with_reducible rfl))
  simp only [Act.put, List.setIfInBounds_toArray, List.set_cons_zero, List.set_cons_succ]
  refine wpAnyH_ready (rs := [3, 5]) (by kernel_rfl) (by simp) ?_
  refine AllReadyH.cons rfl (fun K hK => ?_) (AllReadyH.cons rfl (fun K hK => ?_) AllReadyH.nil)
  · have cL := c0
    go_simp
    refine hK.out _ _ (trivial) (fun hHeld => ?_)
    clear hK K
    (try simp only [Act.put, List.setIfInBounds_toArray, List.set_cons_zero, List.set_cons_succ])
    refine wpAnyH_ready (rs := [5]) (by kernel_rfl) (by simp) ?_
    refine AllReadyH.cons rfl (fun K hK => ?_) AllReadyH.nil
    go_simp
    refine hK.out _ _ (trivial) (fun hHeld => ?_)
    clear hK K
    (try simp only [Act.put, List.setIfInBounds_toArray, List.set_cons_zero, List.set_cons_succ])
    refine wpAnyH_ready (rs := [6]) (by kernel_rfl) (by simp) ?_
    refine AllReadyH.cons rfl (fun K hK => ?_) AllReadyH.nil
    go_simp
    refine hK.out _ _ (trivial) (fun hHeld => ?_)
    clear hK K
    (try simp only [Act.put, List.setIfInBounds_toArray, List.set_cons_zero, List.set_cons_succ])
    refine wpAnyH_ready (rs := [7]) (by kernel_rfl) (by simp) ?_
    refine AllReadyH.cons rfl (fun K hK => ?_) AllReadyH.nil
    refine us_stepApp rfl (.tmp 7) (.tmp 10) 132 rfl _ _ _ w1 (by first | rfl | (simp [Act.eval]; done) | (simp [Act.eval, Act.put]; done)) (by first | rfl | (simp [Act.eval]; done) | (simp [Act.eval, Act.put]; done)) hrun ?_
    refine hK.out _ _ (trivial) (fun hHeld => ?_)
    clear hK K
    simp only [Act.put, List.setIfInBounds_toArray]
    refine anyH_take 8 12 (v := ?v5) rfl rfl (by kernel_rfl) (by kernel_rfl) (by kernel_rfl) (fun _ _ _ h => h) (by rfl) ?h5 hHeld ?r5
    case h5 => (intro w hSw; (try dsimp only at hSw); go_simp; try (with_reducible rfl))
    simp only [Act.put]
    refine wpAnyH_ready (rs := [9]) (by kernel_rfl) (by simp) ?_
    refine AllReadyH.cons rfl (fun K hK => ?_) AllReadyH.nil
    go_simp
    refine hK.out _ _ (trivial) (fun hHeld => ?_)
    clear hK K
    (try simp only [Act.put, List.setIfInBounds_toArray, List.set_cons_zero, List.set_cons_succ])
    refine wpAnyH_done (by kernel_rfl) ?_ _
    go_wp2_with fail
    go_end0
    exact ⟨rfl, _, _, unhide RES, unhide BB⟩
  · go_simp
    refine hK.out _ _ (trivial) (fun hHeld => ?_)
    clear hK K
    (try simp only [Act.put, List.setIfInBounds_toArray, List.set_cons_zero, List.set_cons_succ])
    refine wpAnyH_ready (rs := [3, 6]) (by kernel_rfl) (by simp) ?_
    refine AllReadyH.cons rfl (fun K hK => ?_) (AllReadyH.cons rfl (fun K hK => ?_) AllReadyH.nil)
    · have cL := c0
      go_simp
      refine hK.out _ _ (trivial) (fun hHeld => ?_)
      clear hK K
      (try simp only [Act.put, List.setIfInBounds_toArray, List.set_cons_zero, List.set_cons_succ])
      refine wpAnyH_ready (rs := [6]) (by kernel_rfl) (by simp) ?_
      refine AllReadyH.cons rfl (fun K hK => ?_) AllReadyH.nil
      go_simp
      refine hK.out _ _ (trivial) (fun hHeld => ?_)
      clear hK K
      (try simp only [Act.put, List.setIfInBounds_toArray, List.set_cons_zero, List.set_cons_succ])
      refine wpAnyH_ready (rs := [7]) (by kernel_rfl) (by simp) ?_
      refine AllReadyH.cons rfl (fun K hK => ?_) AllReadyH.nil
      refine us_stepApp rfl (.tmp 7) (.tmp 10) 132 rfl _ _ _ w1 (by first | rfl | (simp [Act.eval]; done) | (simp [Act.eval, Act.put]; done)) (by first | rfl | (simp [Act.eval]; done) | (simp [Act.eval, Act.put]; done)) hrun ?_
      refine hK.out _ _ (trivial) (fun hHeld => ?_)
      clear hK K
      simp only [Act.put, List.setIfInBounds_toArray]
      refine anyH_take 8 12 (v := ?v6) rfl rfl (by kernel_rfl) (by kernel_rfl) (by kernel_rfl) (fun _ _ _ h => h) (by rfl) ?h6 hHeld ?r6
      case h6 => (intro w hSw; (try dsimp only at hSw); go_simp; try (with_reducible rfl))
      simp only [Act.put]
      refine wpAnyH_ready (rs := [9]) (by kernel_rfl) (by simp) ?_
      refine AllReadyH.cons rfl (fun K hK => ?_) AllReadyH.nil
      go_simp
      refine hK.out _ _ (trivial) (fun hHeld => ?_)
      clear hK K
      (try simp only [Act.put, List.setIfInBounds_toArray, List.set_cons_zero, List.set_cons_succ])
      refine wpAnyH_done (by kernel_rfl) ?_ _
      go_wp2_with fail
      go_end0
      exact ⟨rfl, _, _, unhide RES, unhide BB⟩
    · go_simp
      refine hK.out _ _ (trivial) (fun hHeld => ?_)
      clear hK K
      (try simp only [Act.put, List.setIfInBounds_toArray, List.set_cons_zero, List.set_cons_succ])
      refine wpAnyH_ready (rs := [3]) (by kernel_rfl) (by simp) ?_
      refine AllReadyH.cons rfl (fun K hK => ?_) AllReadyH.nil
      have cL := cA
      go_simp
      refine hK.out _ _ (trivial) (fun hHeld => ?_)
      clear hK K
      (try simp only [Act.put, List.setIfInBounds_toArray, List.set_cons_zero, List.set_cons_succ])
      refine wpAnyH_ready (rs := [7]) (by kernel_rfl) (by simp) ?_
      refine AllReadyH.cons rfl (fun K hK => ?_) AllReadyH.nil
      refine us_stepApp rfl (.tmp 7) (.tmp 10) 132 rfl _ _ _ w1 (by first | rfl | (simp [Act.eval]; done) | (simp [Act.eval, Act.put]; done)) (by first | rfl | (simp [Act.eval]; done) | (simp [Act.eval, Act.put]; done)) hrun ?_
      refine hK.out _ _ (trivial) (fun hHeld => ?_)
      clear hK K
      simp only [Act.put, List.setIfInBounds_toArray]
      refine anyH_take 8 12 (v := ?v7) rfl rfl (by kernel_rfl) (by kernel_rfl) (by kernel_rfl) (fun _ _ _ h => h) (by rfl) ?h7 hHeld ?r7
      case h7 => (intro w hSw; (try dsimp only at hSw); go_simp; try (with_reducible rfl))
      simp only [Act.put]
      refine wpAnyH_ready (rs := [9]) (by kernel_rfl) (by simp) ?_
      refine AllReadyH.cons rfl (fun K hK => ?_) AllReadyH.nil
      go_simp
      refine hK.out _ _ (trivial) (fun hHeld => ?_)
      clear hK K
      (try simp only [Act.put, List.setIfInBounds_toArray, List.set_cons_zero, List.set_cons_succ])
      refine wpAnyH_done (by kernel_rfl) ?_ _
      go_wp2_with fail
      go_end0
      exact ⟨rfl, _, _, unhide RES, unhide BB⟩
  -- PUSHEND
end Go.Proofs.YtfajenejngddeaaGreat

namespace Go.Proofs.YtfajenejngddeaaGreat
open Go.RowKit

set_option maxRecDepth 100000 in
set_option maxHeartbeats 4000000 in
theorem hpPush_any (B hb g n c : Nat) (xs : List Int) (x m : Int) (w : World) (h : HpAt w B hb g n c xs) (hn : n ≤ 50) (hB : B ≤ w.heap.size) (hH : HeapL xs) (hM : MinL xs m) :
    Calls Tryz.prog 81 #[.iface 130 (.pointer (some ⟨hb, 0, none⟩)), .iface 3 (.int .i64 x)] w fun e w' => e = .returned (.tuple #[]) ∧ ∃ g' c' xs', HpAt w' B hb g' (n + 1) c' xs' ∧ HeapL xs' ∧ MinL xs' (min m x) ∧ Below B w w' := by
  have MP := m_push hb w
  have CP := hide (hpPush1_any B hb g n c xs x w h (by omega) hB)
  have HL := hide h.len
  have HH := hide hH
  have HM := hide hM
  clear h hH hM
  go_enter Tryz.func81, Tryz.ntmps81
  go_wp2_with fail
  refine (unhide CP).mono ?_
  rintro e w1 ⟨rfl, g', c', h1, b1⟩
  have ML := m_len hb w1 (some ⟨g', 0, none⟩) (n + 1) c' h1.cell
  have CL := hide (hpLen_any (some ⟨g', 0, none⟩) (n + 1) c' w1)
  have CU := hide (hpUp_any B hb g' (n + 1) c' n (xs ++ [x]) (min m x) w1 h1 (by omega) (by omega) (by rw [← unhide HL]; exact (unhide HH).app x) ((unhide HM).app x))
  have q1 : IntKind.i64.wrap ((n : Int) + 1 - 1) = (n : Int) := by rw [IntKind.wrap_i64]; omega
  have q2 : IntKind.i64.wrap (((n + 1 : Nat) : Int) - 1) = (n : Int) := by rw [IntKind.wrap_i64]; omega
  clear CP MP h1
  go_wp2_with fail
  refine (unhide CL).mono ?_
  rintro e w2 ⟨rfl, hw⟩
  subst w2
  go_wp2_with fail
  refine (unhide CU).mono ?_
  rintro e w3 ⟨rfl, xs', h3, hh, hm, b3⟩
  go_wp2_with fail
  go_end0
  exact ⟨rfl, g', c', xs', h3, hh, hm, b1.trans b3⟩
/-- What down may leave. -/
def DnRes (B hb g n c nn : Nat) (x : Int) (w : World) (e : Ending) (w' : World) : Prop := (∃ b : Bool, e = .returned (.bool b)) ∧ ∃ ys, HpAt w' B hb g n c ys ∧ gx ys nn = x ∧ Below B w w'
set_option maxRecDepth 100000 in
set_option maxHeartbeats 8000000 in
theorem hpDown_any (B hb g n c nn : Nat) (xs : List Int) (w : World) (h : HpAt w B hb g n c xs) (hn : n ≤ 100) (hnn : nn + 1 = n) :
    Calls Tryz.prog 116 #[.iface 130 (.pointer (some ⟨hb, 0, none⟩)), .int .i64 0, .int .i64 (nn : Int)] w (DnRes B hb g n c nn (gx xs nn) w) := by
  obtain ⟨x, hx⟩ : ∃ x, x = gx xs nn := ⟨_, rfl⟩
  rw [← hx]
  have ST := hide (show HpAt w B hb g n c xs ∧ gx xs nn = x ∧ Below B w w from ⟨h, hx.symm, Below.refl _ _⟩)
  clear h hx
  go_enter Tryz.func116, Tryz.ntmps116
  go_wp2_with fail
  go_loopw [7] (fun iv wr => ∃ (k : Nat) (ys : List Int), iv = .int .i64 (k : Int) ∧ k ≤ nn ∧ Hid (HpAt wr B hb g n c ys ∧ gx ys nn = x ∧ Below B w wr)) (fun iv _ => n - (intOf iv).toNat)
  case atStart => exact ⟨0, xs, rfl, by omega, ST⟩
  case round =>
    clear ST
    obtain ⟨k, ys, rfl, hk, hH⟩ := hrel
    obtain ⟨hA, hX, hB⟩ := unhide hH
    have HA := hide hA
    have HX := hide hX
    have HB := hide hB
    clear hH hA hX hB
    by_cases h1 : 2 * k + 1 ≥ nn
    · have Z := hide (show ∃ ys, HpAt wr B hb g n c ys ∧ gx ys nn = x ∧ Below B w wr from ⟨ys, unhide HA, unhide HX, unhide HB⟩)
      clear HA HX HB
      go_wp2_with fail
      go_ret
      exact ⟨⟨_, rfl⟩, unhide Z⟩
    by_cases h2 : 2 * k + 2 < nn
    · have ML := m_less hb wr (some ⟨g, 0, none⟩) n c (unhide HA).cell
      have CL := hide (show Calls Tryz.prog 163 #[.slice (some ⟨g, 0, none⟩) n c, .int .i64 (2 * (k : Int) + 2), .int .i64 (2 * (k : Int) + 1)] wr fun e w' => e = .returned (.bool (decide (gx ys (2 * k + 2) < gx ys (2 * k + 1)))) ∧ ∃ q, w' = wr.drewN q from by
        have e1 : (2 * (k : Int) + 2 : Int) = ((2 * k + 2 : Nat) : Int) := by omega
        have e2 : (2 * (k : Int) + 1 : Int) = ((2 * k + 1 : Nat) : Int) := by omega
        rw [e1, e2]
        exact hpLess_any B hb g n c (2 * k + 2) (2 * k + 1) ys wr (unhide HA) (by omega) (by omega))
      have q3 : 2 * (k : Int) + 1 + 1 = 2 * (k : Int) + 2 := by omega
      by_cases hl : gx ys (2 * k + 2) < gx ys (2 * k + 1)
      · rw [decide_eq_true hl] at CL
        clear hl
        go_wp2_with fail
        refine (unhide CL).mono ?_
        rintro e w4 ⟨rfl, q4, hw4⟩
        have HA4 := hide ((unhide HA).drewN q4)
        have HB4 := hide (bel_drewN (unhide HB) q4)
        rw [← hw4] at HA4 HB4
        clear hw4 HA HB CL ML
        have HA := HA4
        have HB := HB4
        clear HA4 HB4
        have ML2 := m_less hb w4 (some ⟨g, 0, none⟩) n c (unhide HA).cell
        have CL2 := hide (show Calls Tryz.prog 163 #[.slice (some ⟨g, 0, none⟩) n c, .int .i64 (2 * (k : Int) + 2), .int .i64 ((k : Int))] w4 fun e w' => e = .returned (.bool (decide (gx ys (2 * k + 2) < gx ys (k)))) ∧ ∃ q, w' = w4.drewN q from by
          have e1 : (2 * (k : Int) + 2 : Int) = ((2 * k + 2 : Nat) : Int) := by omega
          have e2 : ((k : Int) : Int) = ((k : Nat) : Int) := by omega
          rw [e1, e2]
          exact hpLess_any B hb g n c (2 * k + 2) (k) ys w4 (unhide HA) (by omega) (by omega))
        by_cases hs : gx ys (2 * k + 2) < gx ys k
        · rw [decide_eq_true hs] at CL2
          have RS := hide (show gx (swL ys k (2 * k + 2)) nn = x by rw [swL_at (by rw [(unhide HA).len]; omega) (by rw [(unhide HA).len]; omega), if_neg (by omega), if_neg (by omega)]; exact unhide HX)
          clear hs HX
          go_wp2_with fail
          refine (unhide CL2).mono ?_
          rintro e w5 ⟨rfl, q5, hw5⟩
          subst w5
          have H5 := hide ((unhide HA).drewN q5)
          have B5 := hide (bel_drewN (unhide HB) q5)
          have MS := m_swap hb (World.drewN w4 q5) (some ⟨g, 0, none⟩) n c (unhide H5).cell
          have CS := hide (show Calls Tryz.prog 166 #[.slice (some ⟨g, 0, none⟩) n c, .int .i64 ((k : Int)), .int .i64 (2 * (k : Int) + 2)] (World.drewN w4 q5) fun e w' => e = .returned (.tuple #[]) ∧ HpAt w' B hb g n c (swL ys (k) (2 * k + 2)) ∧ Below B (World.drewN w4 q5) w' from by
            have e1 : ((k : Int) : Int) = ((k : Nat) : Int) := by omega
            have e2 : (2 * (k : Int) + 2 : Int) = ((2 * k + 2 : Nat) : Int) := by omega
            rw [e1, e2]
            exact hpSwap_any B hb g n c (k) (2 * k + 2) ys (World.drewN w4 q5) (unhide H5) (by omega) (by omega))
          clear ML2 CL2 HA HB H5
          go_wp2_with fail
          refine (unhide CS).mono ?_
          rintro e w6 ⟨rfl, h6, b6⟩
          have Z := hide (show HpAt w6 B hb g n c (swL ys k (2 * k + 2)) ∧ gx (swL ys k (2 * k + 2)) nn = x ∧ Below B w w6 from ⟨h6, unhide RS, (unhide B5).trans b6⟩)
          clear h6 b6 RS B5 CS MS
          go_wp2_with fail
          go_roundw
          case rel => exact ⟨2 * k + 2, _, by go_num, by omega, Z⟩
          case measure => simp [intOf]; omega
        · rw [decide_eq_false hs] at CL2
          clear hs
          go_wp2_with fail
          refine (unhide CL2).mono ?_
          rintro e w5 ⟨rfl, q5, hw5⟩
          subst w5
          have Z := hide (show ∃ ys, HpAt (World.drewN w4 q5) B hb g n c ys ∧ gx ys nn = x ∧ Below B w (World.drewN w4 q5) from ⟨ys, (unhide HA).drewN q5, unhide HX, bel_drewN (unhide HB) q5⟩)
          clear ML2 CL2 HA HB HX
          go_wp2_with fail
          go_ret
          exact ⟨⟨_, rfl⟩, unhide Z⟩
      · rw [decide_eq_false hl] at CL
        clear hl
        go_wp2_with fail
        refine (unhide CL).mono ?_
        rintro e w4 ⟨rfl, q4, hw4⟩
        have HA4 := hide ((unhide HA).drewN q4)
        have HB4 := hide (bel_drewN (unhide HB) q4)
        rw [← hw4] at HA4 HB4
        clear hw4 HA HB CL ML
        have HA := HA4
        have HB := HB4
        clear HA4 HB4
        have ML2 := m_less hb w4 (some ⟨g, 0, none⟩) n c (unhide HA).cell
        have CL2 := hide (show Calls Tryz.prog 163 #[.slice (some ⟨g, 0, none⟩) n c, .int .i64 (2 * (k : Int) + 1), .int .i64 ((k : Int))] w4 fun e w' => e = .returned (.bool (decide (gx ys (2 * k + 1) < gx ys (k)))) ∧ ∃ q, w' = w4.drewN q from by
          have e1 : (2 * (k : Int) + 1 : Int) = ((2 * k + 1 : Nat) : Int) := by omega
          have e2 : ((k : Int) : Int) = ((k : Nat) : Int) := by omega
          rw [e1, e2]
          exact hpLess_any B hb g n c (2 * k + 1) (k) ys w4 (unhide HA) (by omega) (by omega))
        by_cases hs : gx ys (2 * k + 1) < gx ys k
        · rw [decide_eq_true hs] at CL2
          have RS := hide (show gx (swL ys k (2 * k + 1)) nn = x by rw [swL_at (by rw [(unhide HA).len]; omega) (by rw [(unhide HA).len]; omega), if_neg (by omega), if_neg (by omega)]; exact unhide HX)
          clear hs HX
          go_wp2_with fail
          refine (unhide CL2).mono ?_
          rintro e w5 ⟨rfl, q5, hw5⟩
          subst w5
          have H5 := hide ((unhide HA).drewN q5)
          have B5 := hide (bel_drewN (unhide HB) q5)
          have MS := m_swap hb (World.drewN w4 q5) (some ⟨g, 0, none⟩) n c (unhide H5).cell
          have CS := hide (show Calls Tryz.prog 166 #[.slice (some ⟨g, 0, none⟩) n c, .int .i64 ((k : Int)), .int .i64 (2 * (k : Int) + 1)] (World.drewN w4 q5) fun e w' => e = .returned (.tuple #[]) ∧ HpAt w' B hb g n c (swL ys (k) (2 * k + 1)) ∧ Below B (World.drewN w4 q5) w' from by
            have e1 : ((k : Int) : Int) = ((k : Nat) : Int) := by omega
            have e2 : (2 * (k : Int) + 1 : Int) = ((2 * k + 1 : Nat) : Int) := by omega
            rw [e1, e2]
            exact hpSwap_any B hb g n c (k) (2 * k + 1) ys (World.drewN w4 q5) (unhide H5) (by omega) (by omega))
          clear ML2 CL2 HA HB H5
          go_wp2_with fail
          refine (unhide CS).mono ?_
          rintro e w6 ⟨rfl, h6, b6⟩
          have Z := hide (show HpAt w6 B hb g n c (swL ys k (2 * k + 1)) ∧ gx (swL ys k (2 * k + 1)) nn = x ∧ Below B w w6 from ⟨h6, unhide RS, (unhide B5).trans b6⟩)
          clear h6 b6 RS B5 CS MS
          go_wp2_with fail
          go_roundw
          case rel => exact ⟨2 * k + 1, _, by go_num, by omega, Z⟩
          case measure => simp [intOf]; omega
        · rw [decide_eq_false hs] at CL2
          clear hs
          go_wp2_with fail
          refine (unhide CL2).mono ?_
          rintro e w5 ⟨rfl, q5, hw5⟩
          subst w5
          have Z := hide (show ∃ ys, HpAt (World.drewN w4 q5) B hb g n c ys ∧ gx ys nn = x ∧ Below B w (World.drewN w4 q5) from ⟨ys, (unhide HA).drewN q5, unhide HX, bel_drewN (unhide HB) q5⟩)
          clear ML2 CL2 HA HB HX
          go_wp2_with fail
          go_ret
          exact ⟨⟨_, rfl⟩, unhide Z⟩
    · skip
      have ML2 := m_less hb wr (some ⟨g, 0, none⟩) n c (unhide HA).cell
      have CL2 := hide (show Calls Tryz.prog 163 #[.slice (some ⟨g, 0, none⟩) n c, .int .i64 (2 * (k : Int) + 1), .int .i64 ((k : Int))] wr fun e w' => e = .returned (.bool (decide (gx ys (2 * k + 1) < gx ys (k)))) ∧ ∃ q, w' = wr.drewN q from by
        have e1 : (2 * (k : Int) + 1 : Int) = ((2 * k + 1 : Nat) : Int) := by omega
        have e2 : ((k : Int) : Int) = ((k : Nat) : Int) := by omega
        rw [e1, e2]
        exact hpLess_any B hb g n c (2 * k + 1) (k) ys wr (unhide HA) (by omega) (by omega))
      by_cases hs : gx ys (2 * k + 1) < gx ys k
      · rw [decide_eq_true hs] at CL2
        have RS := hide (show gx (swL ys k (2 * k + 1)) nn = x by rw [swL_at (by rw [(unhide HA).len]; omega) (by rw [(unhide HA).len]; omega), if_neg (by omega), if_neg (by omega)]; exact unhide HX)
        clear hs HX
        go_wp2_with fail
        refine (unhide CL2).mono ?_
        rintro e w5 ⟨rfl, q5, hw5⟩
        subst w5
        have H5 := hide ((unhide HA).drewN q5)
        have B5 := hide (bel_drewN (unhide HB) q5)
        have MS := m_swap hb (World.drewN wr q5) (some ⟨g, 0, none⟩) n c (unhide H5).cell
        have CS := hide (show Calls Tryz.prog 166 #[.slice (some ⟨g, 0, none⟩) n c, .int .i64 ((k : Int)), .int .i64 (2 * (k : Int) + 1)] (World.drewN wr q5) fun e w' => e = .returned (.tuple #[]) ∧ HpAt w' B hb g n c (swL ys (k) (2 * k + 1)) ∧ Below B (World.drewN wr q5) w' from by
          have e1 : ((k : Int) : Int) = ((k : Nat) : Int) := by omega
          have e2 : (2 * (k : Int) + 1 : Int) = ((2 * k + 1 : Nat) : Int) := by omega
          rw [e1, e2]
          exact hpSwap_any B hb g n c (k) (2 * k + 1) ys (World.drewN wr q5) (unhide H5) (by omega) (by omega))
        clear ML2 CL2 HA HB H5
        go_wp2_with fail
        refine (unhide CS).mono ?_
        rintro e w6 ⟨rfl, h6, b6⟩
        have Z := hide (show HpAt w6 B hb g n c (swL ys k (2 * k + 1)) ∧ gx (swL ys k (2 * k + 1)) nn = x ∧ Below B w w6 from ⟨h6, unhide RS, (unhide B5).trans b6⟩)
        clear h6 b6 RS B5 CS MS
        go_wp2_with fail
        go_roundw
        case rel => exact ⟨2 * k + 1, _, by go_num, by omega, Z⟩
        case measure => simp [intOf]; omega
      · rw [decide_eq_false hs] at CL2
        clear hs
        go_wp2_with fail
        refine (unhide CL2).mono ?_
        rintro e w5 ⟨rfl, q5, hw5⟩
        subst w5
        have Z := hide (show ∃ ys, HpAt (World.drewN wr q5) B hb g n c ys ∧ gx ys nn = x ∧ Below B w (World.drewN wr q5) from ⟨ys, (unhide HA).drewN q5, unhide HX, bel_drewN (unhide HB) q5⟩)
        clear ML2 CL2 HA HB HX
        go_wp2_with fail
        go_ret
        exact ⟨⟨_, rfl⟩, unhide Z⟩
set_option maxRecDepth 100000 in
set_option maxHeartbeats 4000000 in
theorem hpPop1_any (B hb g n c nn : Nat) (xs : List Int) (w : World) (h : HpAt w B hb g n c xs) (hnn : nn + 1 = n) (hn : n ≤ 100) :
    Calls Tryz.prog 164 #[.pointer (some ⟨hb, 0, none⟩)] w fun e w' => e = .returned (.iface 3 (.int .i64 (gx xs nn))) ∧ Below B w w' := by
  have c0 := h.cell
  have c1 := h.at (show nn < n by omega)
  have f0 := (heap_at h.box 0).2
  have q1 : IntKind.i64.wrap ((n : Int) - 1) = (nn : Int) := by rw [IntKind.wrap_i64]; omega
  have q2 : (nn : Int) < (n : Int) := by omega
  have q3 : (n : Int) - 1 = (nn : Int) := by omega
  have hc : n ≤ c := by
    rcases h.own.2 with ⟨e, _⟩ | ⟨g', cap, cur, e, _, _, hc, _⟩
    · cases e
    · injection e with _ _ e; omega
  have q4 : (nn : Int) ≤ (c : Int) := by omega
  have q5 : nn ≤ c := by omega
  have BB := hide (show ∀ v, Below B w (w.setCell ⟨hb, 0, none⟩ v) from fun v => (Below.refl B w).setCell (p := ⟨hb, 0, none⟩) h.ge _)
  clear h
  generalize gx xs nn = x at *
  go_enter Tryz.func164, Tryz.ntmps164
  go_wp2_with fail
  go_ret
  exact ⟨rfl, unhide BB _⟩
set_option maxRecDepth 100000 in
set_option maxHeartbeats 4000000 in
theorem hpPop_any (B hb g n c : Nat) (xs : List Int) (m : Int) (w : World) (h : HpAt w B hb g n c xs) (h0 : 0 < n) (hn : n ≤ 100) (hH : HeapL xs) (hM : MinL xs m) :
    Calls Tryz.prog 82 #[.iface 130 (.pointer (some ⟨hb, 0, none⟩))] w fun e w' => e = .returned (.iface 3 (.int .i64 m)) ∧ Below B w w' := by
  obtain ⟨nn, hnn⟩ : ∃ nn, nn + 1 = n := ⟨n - 1, by omega⟩
  have ML := m_len hb w (some ⟨g, 0, none⟩) n c h.cell
  have CL := hide (hpLen_any (some ⟨g, 0, none⟩) n c w)
  have MS := m_swap hb w (some ⟨g, 0, none⟩) n c h.cell
  have CS := hpSwap_any B hb g n c 0 nn xs w h (by omega) (by omega)
  rw [show ((0 : Nat) : Int) = 0 from rfl] at CS
  replace CS := hide CS
  have q1 : IntKind.i64.wrap ((n : Int) - 1) = (nn : Int) := by rw [IntKind.wrap_i64]; omega
  have q3 : (n : Int) - 1 = (nn : Int) := by omega
  have RT := hide (show gx (swL xs 0 nn) nn = m by rw [swL_at (by rw [h.len]; omega) (by rw [h.len]; omega), if_pos rfl]; exact hH.root hM)
  clear h hH hM
  go_enter Tryz.func82, Tryz.ntmps82
  go_wp2_with fail
  refine (unhide CL).mono ?_
  rintro e w1 ⟨rfl, hw⟩
  subst w1
  go_wp2_with fail
  refine (unhide CS).mono ?_
  rintro e w2 ⟨rfl, h2, b2⟩
  have CD := hide (hpDown_any B hb g n c nn _ w2 h2 hn hnn)
  rw [unhide RT] at CD
  clear CS MS CL ML h2
  go_wp2_with fail
  refine (unhide CD).mono ?_
  rintro e w3 ⟨⟨b, rfl⟩, ys, h3, hx, b3⟩
  have MP := m_pop hb w3
  have CP := hide (hpPop1_any B hb g n c nn ys w3 h3 hnn hn)
  rw [hx] at CP
  clear h3 hx CD
  go_wp2_with fail
  refine (unhide CP).mono ?_
  rintro e w4 ⟨rfl, b4⟩
  go_wp2_with fail
  go_ret
  exact ⟨rfl, b2.trans (b3.trans b4)⟩
end Go.Proofs.YtfajenejngddeaaGreat

namespace Go.Proofs.YtfajenejngddeaaGreat
open Go.RowKit

theorem hp_new {w : World} {x : Int} : HpAt ((w.alloc (.cells #[.int .i64 x] 3)).alloc (.cells #[.slice (some ⟨w.heap.size, 0, none⟩) 1 1] 132)) w.heap.size (w.heap.size + 1) w.heap.size 1 1 [x] := by
  have h1 := World.ownsRow_lit (base := w.heap.size) (e := 3) (size := 1) w #[.int .i64 x] 1 (Nat.le_refl _) (by unfold maxLen; simp) (by simp)
  have e : (w.alloc (.cells #[.int .i64 x] 3)).heap.size = w.heap.size + 1 := by simp
  refine ⟨by rw [← e]; exact heap_alloc_new _ _, ?_, by omega, rfl⟩
  exact rb_ownsRow_below h1 ((Below.refl _ _).alloc (Nat.le_refl _) _)
set_option maxRecDepth 100000 in
set_option maxHeartbeats 8000000 in
theorem horizon_any (lb : Nat) (d : VsD) (mv : Value) (f s : Sl) (hs : List SeH) (w : World) (hb : w.heap[lb]? = some (.cells #[.int .i64 d.next, mv, .slice f.a f.n f.c, .slice s.a s.n s.c] 86 (0, 0))) (hI : SeIn w (.slice s.a s.n s.c) s.n hs) (hX : hs.map (·.X) = d.ses) (hn : s.n ≤ 10) :
    Calls Tryz.prog 34 #[.pointer (some ⟨lb, 0, none⟩)] w fun e w' => e = .returned (.int .i64 (leastV d)) ∧ Below w.heap.size w w' := by
  have hl : hs.length = s.n := by have := hI.len; rw [List.length_map] at this; exact this
  have hds : d.ses.length = s.n := by rw [← hX, List.length_map, hl]
  have c0 := (heap_at hb 0).1
  have c3 := (heap_at hb 3).1
  simp only [List.getElem?_toArray, List.getElem?_cons_zero, List.getElem?_cons_succ] at c0 c3
  obtain ⟨W, hW⟩ : ∃ W, W = (w.alloc (.cells #[.int .i64 d.next] 3)).alloc (.cells #[.slice (some ⟨w.heap.size, 0, none⟩) 1 1] 132) := ⟨_, rfl⟩
  have b0 : Below w.heap.size w W := by rw [hW]; exact ((Below.refl _ _).alloc (Nat.le_refl _) _).alloc (by simp) _
  have ST := hide (show HpAt W w.heap.size (w.heap.size + 1) w.heap.size (0 + 1) 1 [d.next] ∧ HeapL [d.next] ∧ MinL [d.next] (leTo d 0) ∧ Below w.heap.size w W from ⟨by rw [hW]; exact hp_new, (heap_one _).1, by rw [leTo_zero]; exact (heap_one _).2, b0⟩)
  have k0 := (b0.cell (p := ⟨lb, 0, none⟩) (cell_lt c0)).trans c0
  have k3 := (b0.cell (p := ⟨lb, 3, none⟩) (cell_lt c3)).trans c3
  have HI := hide hI
  have HX := hide hX
  have HL := hide hl
  have HD := hide hds
  obtain ⟨sa, sn, sc⟩ := s
  simp only at c3 k3 HI HL HD hn
  clear hI hX hl hds hb b0 k0
  rw [hW] at k3
  go_enter Tryz.func34, Tryz.ntmps34
  go_wp2_with fail
  rw [← hW]
  clear hW k3 c0 c3
  go_loopw [17] (fun iv wr => ∃ (k q : Nat) (g c : Nat) (xs : List Int), iv = .int .i64 (k : Int) ∧ k ≤ sn ∧ q ≤ k ∧ Hid (HpAt wr w.heap.size (w.heap.size + 1) g (q + 1) c xs ∧ HeapL xs ∧ MinL xs (leTo d k) ∧ Below w.heap.size w wr)) (fun iv _ => sn - (intOf iv).toNat)
  case atStart => exact ⟨0, 0, _, _, _, rfl, Nat.zero_le _, Nat.le_refl _, ST⟩
  case round =>
    clear ST
    obtain ⟨k, q, g, c, xs, rfl, hk, hq, hS⟩ := hrel
    by_cases hlt : k < sn
    case neg =>
      obtain rfl : k = sn := by omega
      obtain ⟨h1, h2, h3, h4⟩ := unhide hS
      have CP := hide (hpPop_any w.heap.size (w.heap.size + 1) g (q + 1) c xs (leTo d k) wr h1 (by omega) (by omega) h2 h3)
      have TI := as_int (leTo d k)
      have HB := hide h4
      have LE := hide (show leTo d k = leastV d by rw [← unhide HD]; exact leTo_all d)
      clear hS h1 h2 h3 h4
      generalize leTo d k = m at *
      go_wp2_with fail
      refine (unhide CP).mono ?_
      rintro e w1 ⟨rfl, b1⟩
      have TI := TI w1
      go_wp2_with fail
      go_ret
      exact ⟨ret_int (unhide LE), (unhide HB).trans b1⟩
    have hk2 : k < hs.length := by rw [unhide HL]; exact hlt
    have hkd : k < d.ses.length := by rw [unhide HD]; exact hlt
    have hkn : (k : Int) < (sn : Int) := by omega
    obtain ⟨h1, h2, h3, h4⟩ := unhide hS
    obtain ⟨b, off, ea, _, d0, d1, d2⟩ := SeIn.cells ((unhide HI).below h4) hk2
    subst ea
    have LS := hide (show leTo d (k + 1) = if hs[k].X.o = true then min (leTo d k) hs[k].X.t else leTo d k by
      rw [leTo_step d hkd]
      have e : d.ses[k] = hs[k].X := by
        have := unhide HX
        simp only [← this, List.getElem_map]
      rw [e])
    obtain ⟨U, hU⟩ : ∃ U, U = wr.alloc (.cells #[.bool hs[k].X.o, .int .i64 hs[k].X.t, .slice hs[k].s0.a hs[k].s0.n hs[k].s0.c] 93) := ⟨_, rfl⟩
    have bU : Below wr.heap.size wr U := by rw [hU]; exact (Below.refl _ _).alloc (Nat.le_refl _) _
    have e0 : U.cell? ⟨wr.heap.size, 0, none⟩ = some (.bool hs[k].X.o) := by rw [hU]; exact (heap_at (heap_alloc_new _ _) 0).1
    have e1 : U.cell? ⟨wr.heap.size, 1, none⟩ = some (.int .i64 hs[k].X.t) := by rw [hU]; exact (heap_at (heap_alloc_new _ _) 1).1
    have H1 : HpAt U w.heap.size (w.heap.size + 1) g (q + 1) c xs := ⟨(bU.block _ (blk_lt h1.box)).trans h1.box, rb_ownsRow_below h1.own bU, h1.ge, h1.len⟩
    have BU := hide (h4.trans (bU.mono h4.size))
    have CP := hide (fun x => hpPush_any w.heap.size (w.heap.size + 1) g (q + 1) c xs x (leTo d k) U H1 (by omega) (unhide BU).size h2 h3)
    have HH := hide (show HpAt U w.heap.size (w.heap.size + 1) g (q + 1) c xs ∧ HeapL xs ∧ MinL xs (leTo d k) ∧ Below w.heap.size w U from ⟨H1, h2, h3, unhide BU⟩)
    clear hS h1 h2 h3 h4 H1 bU
    generalize hs[k] = x at *
    obtain ⟨⟨xo, xt, xw⟩, ⟨wa, wn, wc⟩⟩ := x
    simp only at d0 d1 d2 LS hU e0 e1
    cases xo with
    | true =>
      have L2 := hide (show leTo d (k + 1) = min (leTo d k) xt by rw [unhide LS]; rfl)
      go_wp2_with fail
      rw [← hU]
      clear hU d0 d1 d2 LS HH
      generalize wr.heap.size = ub at *
      go_wp2_with fail
      refine (unhide CP xt).mono ?_
      rintro e w2 ⟨rfl, g2, c2, xs2, i1, i2, i3, i4⟩
      have Z := hide (show HpAt w2 w.heap.size (w.heap.size + 1) g2 (q + 1 + 1) c2 xs2 ∧ HeapL xs2 ∧ MinL xs2 (leTo d (k + 1)) ∧ Below w.heap.size w w2 from ⟨i1, i2, by rw [unhide L2]; exact i3, (unhide BU).trans i4⟩)
      clear i1 i2 i3 i4 CP BU L2
      go_wp2_with fail
      go_roundw
      case rel => exact ⟨k + 1, q + 1, g2, c2, xs2, by go_num, by omega, by omega, Z⟩
      case measure => simp [intOf]; omega
    | false =>
      have Z := hide (show HpAt U w.heap.size (w.heap.size + 1) g (q + 1) c xs ∧ HeapL xs ∧ MinL xs (leTo d (k + 1)) ∧ Below w.heap.size w U by rw [unhide LS]; exact unhide HH)
      clear LS HH CP BU
      go_wp2_with fail
      rw [← hU]
      clear hU d0 d1 d2
      generalize wr.heap.size = ub at *
      go_wp2_with fail
      go_roundw
      case rel => exact ⟨k + 1, q, g, c, xs, by go_num, by omega, by omega, Z⟩
      case measure => simp [intOf]; omega
end Go.Proofs.YtfajenejngddeaaGreat

namespace Go.Proofs.YtfajenejngddeaaGreat
open Go.RowKit

set_option maxHeartbeats 1000000 in
theorem pruneOut_any (bx : Nat) (d : FenD) (m : Int) (w : World) (h : w.cell? ⟨bx, 0, none⟩ = some (.int .i64 m)) :
    Calls Tryz.prog 37 #[fv d, .pointer (some ⟨bx, 0, none⟩)] w fun e w' => e = .returned (.bool (decide (d.t ≤ m))) ∧ Below w.heap.size w w' := by
  have B0 := hide (show Below w.heap.size w (w.alloc (.cells #[.string d.f, .string d.u, .int .i64 d.t] 90)) from (Below.refl _ _).alloc (Nat.le_refl _) _)
  have h' := (unhide B0).cell (p := ⟨bx, 0, none⟩) (cell_lt h) |>.trans h
  obtain ⟨f, u, t⟩ := d
  unfold fv
  clear h
  go_enter Tryz.func37, Tryz.ntmps37
  go_wp2_with fail
  go_ret
  exact ⟨rfl, unhide B0⟩
/-- A fence that stays. -/
def newF (gone : Int) (r : FenD) : Bool := !decide (r.t ≤ gone)
theorem prF_new (fs : List FenD) (m : Int) : prF fs m = fs.filter (newF m) := by
  unfold prF newF
  congr 1
  funext f
  by_cases e : m < f.t
  · rw [decide_eq_true e, decide_eq_false (by omega)]; rfl
  · rw [decide_eq_false e, decide_eq_true (by omega)]; rfl
set_option maxRecDepth 100000 in
set_option maxHeartbeats 4000000 in
theorem indexOld_any (bx : Nat) (a : Option Addr) (n c : Nat) (ds : List FenD) (gone : Int) (w : World) (hn : n ≤ 1048576) (hr : FRow w a n ds) (h : w.cell? ⟨bx, 0, none⟩ = some (.int .i64 gone)) :
    Calls Tryz.prog 83 #[.slice a n c, .func (.func 37) #[] #[.pointer (some ⟨bx, 0, none⟩)]] w fun e w' => ∃ r : Int, e = .returned (.int .i64 r) ∧ ((r = -1 ∧ ds.filter (newF gone) = ds) ∨ ∃ i : Nat, r = (i : Int) ∧ i < n ∧ (ds.take (i + 1)).filter (newF gone) = ds.take i) ∧ Below w.heap.size w w' := by
  have L := hide hr.1
  have R := hide hr
  have HB := hide h
  clear hr h
  go_enter Tryz.func83, Tryz.ntmps83
  go_wp2_with fail
  go_loopw [8] (fun i wr => ∃ k : Nat, k ≤ n ∧ i = .int .i64 k ∧ Hid ((ds.take k).filter (newF gone) = ds.take k) ∧ Below w.heap.size w wr) (fun i _ => n - (intOf i).toNat)
  case atStart => exact ⟨0, by omega, rfl, rfl, Below.refl _ _⟩
  case round =>
    obtain ⟨k, hk, rfl, hok, hb⟩ := hrel
    by_cases hlt : k < n
    · have hk2 : k < ds.length := by rw [unhide L]; exact hlt
      obtain ⟨b, off, rfl, d0, d1, d2⟩ := ((unhide R).below hb).2 k hk2
      have hsz := hb.size
      have hbx : wr.cell? ⟨bx, 0, none⟩ = some (.int .i64 gone) := (hb.cell (p := ⟨bx, 0, none⟩) (cell_lt (unhide HB))).trans (unhide HB)
      have C := hide (pruneOut_any bx ds[k] gone wr hbx)
      have F := hide (show ∀ b, decide (ds[k].t ≤ gone) = b → (ds.take (k + 1)).filter (newF gone) = if b then ds.take k else ds.take (k + 1) from fun b hb => by
        rw [rb_take_snoc ds k hk2, List.filter_append, unhide hok]
        cases b with
        | true => rw [List.filter_cons_of_neg (by unfold newF; rw [hb]; decide)]; simp
        | false => rw [List.filter_cons_of_pos (by unfold newF; rw [hb]; rfl)]; rfl)
      generalize ds[k] = pd at *
      obtain ⟨pf, pu, pt⟩ := pd
      unfold fv at C
      simp only at d0 d1 d2 C F
      clear hok
      cases ht : decide (pt ≤ gone) with
      | false =>
        rw [ht] at C
        have Z := hide (unhide F false ht)
        clear F ht
        go_wp2_with fail
        refine (unhide C).mono ?_
        rintro e w1 ⟨rfl, hb1⟩
        have bA : Below w.heap.size w w1 := hb.trans (hb1.mono hsz)
        clear hb hb1 d0 d1 d2 hbx C
        go_wp2_with fail
        go_roundw
        case rel => exact ⟨k + 1, by omega, by go_num, unhide Z, bA⟩
        case measure => simp [intOf]; omega
      | true =>
        rw [ht] at C
        have Z := hide (unhide F true ht)
        clear F ht
        go_wp2_with fail
        refine (unhide C).mono ?_
        rintro e w1 ⟨rfl, hb1⟩
        have bA : Below w.heap.size w w1 := hb.trans (hb1.mono hsz)
        clear hb hb1 d0 d1 d2 hbx C
        go_wp2_with fail
        go_ret
        exact ⟨k, rfl, .inr ⟨k, rfl, hlt, unhide Z⟩, bA⟩
    · obtain rfl : k = n := by omega
      have Z := hide (show ds.filter (newF gone) = ds by
        have h := unhide hok
        rwa [List.take_of_length_le (by rw [unhide L]; exact Nat.le_refl _)] at h)
      go_wp2_with fail
      go_ret
      exact ⟨-1, rfl, .inl ⟨rfl, unhide Z⟩, hb⟩
end Go.Proofs.YtfajenejngddeaaGreat

namespace Go.Proofs.YtfajenejngddeaaGreat
open Go.RowKit

theorem fcs_take : ∀ (es : List FenD) (n : Nat), fcs (es.take n) = (fcs es).take (n * 3)
  | [], n => by simp [fcs]
  | e :: r, 0 => by simp [fcs]
  | e :: r, n + 1 => by
    rw [List.take_succ_cons, show (n + 1) * 3 = n * 3 + 1 + 1 + 1 by omega]
    simp only [fcs, List.take_succ_cons, fcs_take r n]
theorem feowns_form {w : World} {B n c : Nat} {a : Option Addr} {es : List FenD} (h : FOwns w B (.slice a n c) es) (h0 : 0 < es.length) : ∃ g cur, a = some ⟨g, 0, none⟩ ∧ n = es.length ∧ B ≤ g ∧ w.heap[g]? = some (.cells cur 90 (0, 0)) ∧ n ≤ c ∧ c ≤ maxLen ∧ cur.size = c * 3 ∧ cur.toList.take (n * 3) = fcs es := by
  rcases h.2 with ⟨e, hn⟩ | ⟨g, cap, cur, e, hb, hh, h1, h2, h3, h4⟩
  · omega
  · injection e with e1 e2 e3
    subst e1 e2 e3
    exact ⟨g, cur, rfl, rfl, hb, hh, h1, h2, h3, h4⟩
theorem feowns_back {w : World} {B g c n : Nat} {es : List FenD} {cur : Array Value} (hb : B ≤ g) (hh : w.heap[g]? = some (.cells cur 90 (0, 0))) (hn : n = es.length) (h1 : n ≤ c) (h2 : c ≤ maxLen) (h3 : cur.size = c * 3) (h4 : cur.toList.take (n * 3) = fcs es) : FOwns w B (.slice (some ⟨g, 0, none⟩) n c) es := by
  subst hn
  exact ⟨fcs_len es, .inr ⟨g, c, cur, rfl, hb, hh, h1, h2, h3, h4⟩⟩
/-- Noughts laid over fences. -/
def zF (m : Nat) : List Value := (Builtin.zeroCells (Value.agg #[.string ByteArray.empty, .string ByteArray.empty, .int .i64 0]).cells m).toList
theorem zF_len (m : Nat) : (zF m).length = m * 3 := by unfold zF; rw [Array.length_toList, size_zeroCells]; rfl
theorem zF_one (m : Nat) : ∀ v ∈ zF m, v.oneCell' = true := by
  intro v hv
  unfold zF Builtin.zeroCells at hv
  have hc : (Value.agg #[Value.string ByteArray.empty, .string ByteArray.empty, .int .i64 0]).cells = #[Value.string ByteArray.empty, .string ByteArray.empty, .int .i64 0] := by kernel_rfl
  rw [hc] at hv
  simp at hv
  obtain ⟨_, _, rfl⟩ := hv
  rename_i i _
  have h3 : i % 3 = 0 ∨ i % 3 = 1 ∨ i % 3 = 2 := by omega
  rcases h3 with h | h | h
  · rw [h]; rfl
  · rw [h]; rfl
  · rw [h]; rfl
theorem run_clearF (w : World) (ty : TypeId) (g o m c : Nat) (cur : Array Value) (hg : w.heap[g]? = some (.cells cur 90 (0, 0))) (hfit : o + m * 3 ≤ cur.size) (hm : 0 < m) :
    (Builtin.clear_ #[24] ty #[.slice (some ⟨g, o, none⟩) m c]).run Tryz.prog w = .ok (.tuple #[]) (w.setRow g (cur.toList.take o ++ zF m ++ cur.toList.drop (o + m * 3)).toArray) := by
  obtain ⟨i, hq, hz, _, _⟩ := info_parts Tryz.infoFence
  have hv : ∀ w, (zeroValue 90).run Tryz.prog w = .ok (.agg #[.string ByteArray.empty, .string ByteArray.empty, .int .i64 0]) w := fun w => by simp [zeroValue, typeInfo, hq, hz]
  have hst := run_storeCells_at Tryz.prog g o 90 (zF m) 0 cur w hg (by rw [zF_len]; simpa using hfit) (zF_one m)
  rw [zF_len] at hst
  simp only [Nat.add_zero] at hst
  obtain ⟨j, rfl⟩ : ∃ j, m = j + 1 := ⟨m - 1, by omega⟩
  unfold zF at hst ⊢
  simp [Builtin.clear_, run_underlying Tryz.underlying24, hv, hst]
theorem fenFil_len {ds : List FenD} {gone : Int} (j : Nat) : ((ds.take j).filter (newF gone)).length ≤ j := by
  have h1 := List.length_filter_le (newF gone) (ds.take j)
  rw [List.length_take] at h1
  omega
/-- What stands there when j fences have been looked at. -/
def delF (gone : Int) (ds : List FenD) (j : Nat) : List FenD := (ds.take j).filter (newF gone) ++ ds.drop ((ds.take j).filter (newF gone)).length
theorem delF_len {gone : Int} {ds : List FenD} {j : Nat} (hj : j ≤ ds.length) : (delF gone ds j).length = ds.length := by
  have := fenFil_len (ds := ds) (gone := gone) j
  unfold delF
  rw [List.length_append, List.length_drop]
  omega
theorem delF_at {gone : Int} {ds : List FenD} {j : Nat} (hj : j < ds.length) (h : j < (delF gone ds j).length) : (delF gone ds j)[j] = ds[j] := by
  have h1 := fenFil_len (ds := ds) (gone := gone) j
  have h2 : (delF gone ds j)[j]? = ds[j]? := by
    unfold delF
    rw [List.getElem?_append_right h1, List.getElem?_drop]
    congr 1
    omega
  rw [List.getElem?_eq_getElem h, List.getElem?_eq_getElem hj] at h2
  injection h2
theorem delF_keep {gone : Int} {ds : List FenD} {j : Nat} (hj : j < ds.length) (h : newF gone ds[j] = true) : delF gone ds (j + 1) = (delF gone ds j).set ((ds.take j).filter (newF gone)).length ds[j] ∧ ((ds.take (j + 1)).filter (newF gone)).length = ((ds.take j).filter (newF gone)).length + 1 := by
  have h1 := fenFil_len (ds := ds) (gone := gone) j
  have e : (ds.take (j + 1)).filter (newF gone) = (ds.take j).filter (newF gone) ++ [ds[j]] := by rw [rb_take_snoc ds j hj, List.filter_append, List.filter_cons_of_pos h, List.filter_nil]
  refine ⟨?_, by rw [e, List.length_append]; rfl⟩
  unfold delF
  rw [e, List.length_append, List.set_append_right _ _ (Nat.le_refl _), Nat.sub_self, List.drop_eq_getElem_cons (show ((ds.take j).filter (newF gone)).length < ds.length by omega), List.set_cons_zero, List.append_assoc]
  rfl
theorem delF_skip {gone : Int} {ds : List FenD} {j : Nat} (hj : j < ds.length) (h : newF gone ds[j] = false) : (ds.take (j + 1)).filter (newF gone) = (ds.take j).filter (newF gone) := by
  rw [rb_take_snoc ds j hj, List.filter_append, List.filter_cons_of_neg (by rw [h]; decide), List.filter_nil, List.append_nil]
set_option maxRecDepth 100000 in
set_option maxHeartbeats 8000000 in
theorem deleteOld_any (B bx : Nat) (a : Option Addr) (n c : Nat) (ds : List FenD) (gone : Int) (w : World) (hn : n ≤ 4096) (hO : FOwns w B (.slice a n c) ds) (h : w.cell? ⟨bx, 0, none⟩ = some (.int .i64 gone)) (_hB : B ≤ w.heap.size) (hne : (Value.slice a n c).ownBlock ≠ some bx) :
    Calls Tryz.prog 36 #[.slice a n c, .func (.func 37) #[] #[.pointer (some ⟨bx, 0, none⟩)]] w fun e w' => ∃ v', e = .returned v' ∧ FOwns w' B v' (ds.filter (newF gone)) ∧ w.grownBy w' (Value.slice a n c).ownBlock := by
  have hr := frow_of_owns hO
  have L := hide hr.1
  have HI := hide (indexOld_any bx a n c ds gone w (by omega) hr h)
  have O := hide hO
  have HB := hide h
  have NE := hide hne
  clear hO hr h hne
  go_enter Tryz.func36, Tryz.ntmps36
  go_wp2_with fail
  refine (unhide HI).mono ?_
  rintro e w1 ⟨r, rfl, hr, hb1⟩
  have O1 := hide (rb_ownsRow_below (unhide O) hb1)
  clear HI
  rcases hr with ⟨rfl, hall⟩ | ⟨i, rfl, hi, hfi⟩
  · have RES := hide (show FOwns w1 B (.slice a n c) (ds.filter (newF gone)) by rw [hall]; exact unhide O1)
    have G := hide (rb_grownBy_below (r := (Value.slice a n c).ownBlock) hb1)
    clear hall hb1 O O1
    go_wp2_with fail
    go_ret
    exact ⟨_, rfl, unhide RES, unhide G⟩
  have hib : ((i : Int) == -1) = false := by rw [beq_eq_false_iff_ne]; omega
  have hnl : n = ds.length := (unhide L).symm
  have hil : i < ds.length := by omega
  obtain ⟨g, cur0, ha, -, hbg, -⟩ := feowns_form (unhide O1) (by omega)
  subst ha
  have FI := hide (show ((ds.take (i + 1)).filter (newF gone)).length = i by rw [hfi, List.length_take]; omega)
  have S0 := hide (show FOwns w1 B (.slice (some ⟨g, 0, none⟩) n c) (delF gone ds (i + 1)) by
    have e : delF gone ds (i + 1) = ds := by
      unfold delF
      rw [hfi, List.length_take, Nat.min_eq_left (by omega), List.take_append_drop]
    rw [e]
    exact unhide O1)
  have G1 := hide (rb_grownBy_below (r := some g) hb1)
  have LT := hide (show ((ds.take (i + 1)).filter (newF gone)).length < i + 1 by rw [unhide FI]; omega)
  have NL := hide hnl
  clear hnl hil hfi O O1 hb1 hbg
  go_wp2_with fail
  go_loopw [5, 6] (fun iv jv wr => ∃ (k j : Nat), iv = .int .i64 (k : Int) ∧ jv = .int .i64 (j : Int) ∧ j ≤ n ∧ k < j ∧ Hid (((ds.take j).filter (newF gone)).length = k) ∧ Hid (FOwns wr B (.slice (some ⟨g, 0, none⟩) n c) (delF gone ds j)) ∧ Hid (w.grownBy wr (some g))) (fun _ jv _ => n - (intOf jv).toNat)
  case atStart => exact ⟨i, i + 1, rfl, by go_num, by omega, by omega, FI, S0, G1⟩
  case round =>
    clear S0 G1 FI LT
    obtain ⟨k, j, rfl, rfl, hj, hkj, hF, hO, hG⟩ := hrel
    have hbx : wr.cell? ⟨bx, 0, none⟩ = some (.int .i64 gone) := (World.cell?_of_block (a := ⟨bx, 0, none⟩) ((unhide hG).block bx (cell_lt (unhide HB)) (fun e => unhide NE e.symm))).trans (unhide HB)
    by_cases hlt : j < n
    · have hjl : j < ds.length := by rw [← unhide NL]; exact hlt
      have hjd : j < (delF gone ds j).length := by rw [delF_len (by omega)]; exact hjl
      obtain ⟨d0, d1, d2⟩ := fowns_at (unhide hO) j hjd
      rw [delF_at hjl hjd] at d0 d1 d2
      have KP := hide (fun h => delF_keep hjl (gone := gone) h)
      have SKP := hide (fun h => delF_skip hjl (gone := gone) h)
      have hkd : k < (delF gone ds j).length := by omega
      obtain ⟨t0, t1, t2⟩ := fowns_at (unhide hO) k hkd
      have f0 := fowns_fz (unhide hO) (k * 3)
      have f1 := fowns_fz (unhide hO) (k * 3 + 1)
      have f2 := fowns_fz (unhide hO) (k * 3 + 2)
      generalize (delF gone ds j)[k] = tk at *
      obtain ⟨b, hb⟩ : ∃ b, b = newF gone ds[j] := ⟨_, rfl⟩
      rw [← hb] at KP SKP
      have ST := hide (fun (u : World) (o : FOwns u B (.slice (some ⟨g, 0, none⟩) n c) (delF gone ds j)) => fowns_store o k ds[j])
      have bxa := (Below.refl wr.heap.size wr).alloc (Nat.le_refl _) (.cells #[.string ds[j].f, .string ds[j].u, .int .i64 ds[j].t] 90)
      have C := hide (pruneOut_any bx ds[j] gone _ ((bxa.cell (p := ⟨bx, 0, none⟩) (cell_lt hbx)).trans hbx))
      have hnb : decide (ds[j].t ≤ gone) = !b := by rw [hb]; unfold newF; simp
      rw [hnb] at C
      clear hnb hb
      generalize hdj : ds[j] = dj at *
      obtain ⟨df, du, dt⟩ := dj
      unfold fv at C
      simp only at d0 d1 d2 C ST bxa
      cases b with
      | true =>
        obtain ⟨e1, e2⟩ := unhide KP rfl
        rw [unhide hF] at e1 e2
        clear KP SKP hdj
        go_wp2_with fail
        refine (unhide C).mono ?_
        rintro e w3 ⟨rfl, hb3⟩
        have bA := bxa.trans (hb3.mono bxa.size)
        have o3 := rb_ownsRow_below (unhide hO) bA
        have m0 := (hb3.cell (p := ⟨wr.heap.size, 0, none⟩) (by simp)).trans (show (wr.alloc (.cells #[.string df, .string du, .int .i64 dt] 90)).cell? ⟨wr.heap.size, 0, none⟩ = some (.string df) by simp)
        have m1 := (hb3.cell (p := ⟨wr.heap.size, 1, none⟩) (by simp)).trans (show (wr.alloc (.cells #[.string df, .string du, .int .i64 dt] 90)).cell? ⟨wr.heap.size, 1, none⟩ = some (.string du) by simp)
        have m2 := (hb3.cell (p := ⟨wr.heap.size, 2, none⟩) (by simp)).trans (show (wr.alloc (.cells #[.string df, .string du, .int .i64 dt] 90)).cell? ⟨wr.heap.size, 2, none⟩ = some (.int .i64 dt) by simp)
        have O4 := hide (show FOwns (((w3.setCell ⟨g, k * 3, none⟩ (.string df)).setCell ⟨g, k * 3 + 1, none⟩ (.string du)).setCell ⟨g, k * 3 + 2, none⟩ (.int .i64 dt)) B (.slice (some ⟨g, 0, none⟩) n c) (delF gone ds (j + 1)) by rw [e1]; exact unhide ST w3 o3)
        have G4 := hide (show w.grownBy (((w3.setCell ⟨g, k * 3, none⟩ (.string df)).setCell ⟨g, k * 3 + 1, none⟩ (.string du)).setCell ⟨g, k * 3 + 2, none⟩ (.int .i64 dt)) (some g) from rb_grown_trans (rb_grown_trans (unhide hG) (rb_grownBy_below bA)) ⟨rfl, rfl, rfl, by simp [World.setCell], fun i _ hne => (Below.heap_setCell _ _ _ _ (fun e => hne (by rw [e]))).trans ((Below.heap_setCell _ _ _ _ (fun e => hne (by rw [e]))).trans (Below.heap_setCell _ _ _ _ (fun e => hne (by rw [e]))))⟩)
        have u0 := (World.cell?_of_block (a := ⟨g, k * 3, none⟩) (bA.block g (cell_lt t0))).trans t0
        have u1 := (World.cell?_of_block (a := ⟨g, k * 3 + 1, none⟩) (bA.block g (cell_lt t0))).trans t1
        have u2 := (World.cell?_of_block (a := ⟨g, k * 3 + 2, none⟩) (bA.block g (cell_lt t0))).trans t2
        have g0 := (World.frozen?_of_block (a := ⟨g, k * 3, none⟩) (bA.block g (cell_lt t0))).trans f0
        have g1 := (World.frozen?_of_block (a := ⟨g, k * 3 + 1, none⟩) (bA.block g (cell_lt t0))).trans f1
        have g2 := (World.frozen?_of_block (a := ⟨g, k * 3 + 2, none⟩) (bA.block g (cell_lt t0))).trans f2
        have E2 := hide e2
        have hkn : k < n := by omega
        clear d0 d1 d2 t0 t1 t2 f0 f1 f2 hO hG hF C hb3 bA o3 e1 e2 bxa ST hbx hkd
        go_wp2_with fail
        go_roundw
        case rel => exact ⟨k + 1, j + 1, by go_num, by go_num, by omega, by omega, E2, O4, G4⟩
        case measure => simp [intOf]; omega
      | false =>
        have e1 := unhide SKP rfl
        have F2 := hide (show ((ds.take (j + 1)).filter (newF gone)).length = k by rw [e1]; exact unhide hF)
        have D2 := hide (show delF gone ds (j + 1) = delF gone ds j by unfold delF; rw [e1])
        clear KP SKP hdj e1
        go_wp2_with fail
        refine (unhide C).mono ?_
        rintro e w3 ⟨rfl, hb3⟩
        have bA := bxa.trans (hb3.mono bxa.size)
        have O4 := hide (show FOwns w3 B (.slice (some ⟨g, 0, none⟩) n c) (delF gone ds (j + 1)) by rw [unhide D2]; exact rb_ownsRow_below (unhide hO) bA)
        have G4 := hide (rb_grown_trans (unhide hG) (rb_grownBy_below bA))
        clear d0 d1 d2 t0 t1 t2 f0 f1 f2 hO hG hF C hb3 bA bxa ST hbx hkd D2
        go_wp2_with fail
        go_roundw
        case rel => exact ⟨k, j + 1, rfl, by go_num, by omega, by omega, F2, O4, G4⟩
        case measure => simp [intOf]; omega
    · obtain rfl : j = n := by omega
      have hjd := delF_len (gone := gone) (ds := ds) (j := j) (by rw [← unhide NL]; exact Nat.le_refl _)
      obtain ⟨g', cur, e1, -, hbg, hgh, h1, h2, h3, h4⟩ := feowns_form (unhide hO) (by rw [hjd, ← unhide NL]; omega)
      injection e1 with e1
      injection e1 with e1 _ _
      subst e1
      have RJ := fun ty => run_clearF wr ty g (k * 3) (j - k) (c - k) cur hgh (by rw [h3]; omega) (by omega)
      obtain ⟨NR, hNR⟩ : ∃ NR, NR = (cur.toList.take (k * 3) ++ zF (j - k) ++ cur.toList.drop (k * 3 + (j - k) * 3)).toArray := ⟨_, rfl⟩
      rw [← hNR] at RJ
      have hW := setRow_heap wr g cur NR _ _ hgh
      have FL := hide (show (ds.filter (newF gone)).length = k by
        have h := unhide hF
        rwa [List.take_of_length_le (by rw [← unhide NL]; exact Nat.le_refl _)] at h)
      have OF := hide (show FOwns (wr.setRow g NR) B (.slice (some ⟨g, 0, none⟩) k c) (ds.filter (newF gone)) by
        have hDJ : delF gone ds j = ds.filter (newF gone) ++ ds.drop (ds.filter (newF gone)).length := by
          unfold delF
          rw [List.take_of_length_le (by rw [← unhide NL]; exact Nat.le_refl _)]
        have h5 : cur.toList.take (k * 3) = fcs (ds.filter (newF gone)) := by
          have h6 : (cur.toList.take (j * 3)).take (k * 3) = cur.toList.take (k * 3) := by rw [List.take_take, Nat.min_eq_left (by omega)]
          rw [← h6, h4, ← fcs_take, hDJ, List.take_append_of_le_length (by rw [unhide FL]; exact Nat.le_refl _), List.take_of_length_le (by rw [unhide FL]; exact Nat.le_refl _)]
        refine feowns_back hbg hW (unhide FL).symm (by omega) h2 ?_ ?_
        · rw [hNR]; simp [zF_len, h3]; omega
        · rw [hNR, List.append_assoc]
          show ((cur.toList.take (k * 3) ++ (zF (j - k) ++ cur.toList.drop (k * 3 + (j - k) * 3))).toArray.toList).take (k * 3) = _
          rw [List.toList_toArray, List.take_append_of_le_length (by simp [h3]; omega), List.take_take, Nat.min_self]
          exact h5)
      have GF := hide (show w.grownBy (wr.setRow g NR) (some g) from rb_grown_trans (unhide hG) (grown_setRow wr g NR))
      have hck : ¬ (c = k) := by omega
      have hkj' : k ≤ j := by omega
      clear hNR hW h4 h3 hgh hO hG hF hjd
      go_wp2_with fail
      go_ret
      exact ⟨_, rfl, unhide OF, unhide GF⟩
end Go.Proofs.YtfajenejngddeaaGreat

namespace Go.Proofs.YtfajenejngddeaaGreat
open Go.RowKit

/-- A pruned history where other blocks change. -/
theorem hisp_wr {w w' : World} {m N B m2 N2 : Nat} {f : ByteArray → Value} {ds es : List VerD} {t : Int} (hA : HisAt w m N B f ds) (h : HisRd w m2 N2 (fun k => prS (f k) (grp ds k) t) es) {P : Nat → Prop} (hw : WrB P w w') (hm : ¬ P m2) (hp : ∀ i, P i → NoV w i) : HisRd w' m2 N2 (fun k => prS (f k) (grp ds k) t) es := by
  refine ⟨h.map.wr hw hm, fun k => ?_, h.no⟩
  obtain ⟨a, c, e, r, hc⟩ := h.row k
  refine ⟨a, c, e, ?_, hc⟩
  by_cases h0 : 0 < (grp es k).length
  · obtain ⟨b, off, ea, -⟩ := r.2 0 (by have := r.1; omega)
    subst ea
    refine vrow_wr r hw (fun hP => ?_)
    simp only [prS] at e
    split at e
    · obtain ⟨a0, c0, e0⟩ := vowns_slice2 (hA.own k)
      rw [e0] at e
      cases a0 with
      | none => simp only [subS] at e; cases e
      | some A =>
        simp only [subS] at e
        injection e with e _ _
        injection e with e
        injection e with e _ _
        obtain ⟨cur, hcur⟩ := own_kind (hA.own k) (i := A.block) (by rw [e0]; rfl)
        rw [e] at hcur
        exact hp b hP cur hcur
    · injection e with e _ _
      cases e
  · refine ⟨r.1, fun i hi => ?_⟩
    have := r.1
    omega
end Go.Proofs.YtfajenejngddeaaGreat

namespace Go.Proofs.YtfajenejngddeaaGreat
open Go.RowKit

/-- What right Versions are bounded by. -/
theorem okVs_top {d : VsD} (h : okVsD d = true) : d.list.length ≤ 4096 ∧ d.fen.length ≤ 4096 ∧ d.ses.length = 4 ∧ okVs d.list = true ∧ ∀ s ∈ d.ses, s.ws.length ≤ 8 := by
  unfold okVsD topK at h
  simp only [Bool.and_eq_true, decide_eq_true_eq] at h
  exact ⟨h.1.2.2.1, h.1.2.2.2.1, h.1.2.2.2.2, h.2.1, fun s hs => sesK_ws (List.all_eq_true.1 h.2.2.2.2 s hs)⟩
theorem ses_few {w : World} {a : Option Addr} {n c : Nat} {hs : List SeH} {d : VsD} (h : SeIn w (.slice a n c) n hs) (hx : hs.map (·.X) = d.ses) (hd : ∀ s ∈ d.ses, s.ws.length ≤ 8) : ∀ x ∈ hs, x.s0.n ≤ 8 := fun x hx2 => by
  obtain ⟨k, hk, rfl⟩ := List.getElem_of_mem hx2
  have h1 := (SeIn.row h hk).1
  have h2 := hd hs[k].X (by rw [← hx]; exact List.mem_map_of_mem hx2)
  omega
theorem pr_ok {d : VsD} {t : Int} {w w' : World} {l f s : Sl} {hs : List SeH} (h : okVsD d = true) (hl : ¬ leastV d ≤ t) (hO : VzOwn w' w.heap.size l f s hs ⟨d.next, prL d.list t, prF d.fen (leastV d), d.ses⟩) (hb : Below w.heap.size w w') : PrRes d t w (.returned (.tuple #[.agg #[.int .i64 d.next, .slice l.a l.n l.c, .slice f.a f.n f.c, .slice s.a s.n s.c], .int .i64 0])) w' := by
  have hv : prV d t = ⟨d.next, prL d.list t, prF d.fen (leastV d), d.ses⟩ := by unfold prV; rw [if_pos ⟨h, hl⟩]
  have hc : prC d t = 0 := by unfold prC; rw [if_pos h, if_neg hl]
  exact ⟨l, f, s, hs, by rw [hv, hc], by rw [hv]; exact hO, hb⟩
set_option maxRecDepth 100000 in
set_option maxHeartbeats 8000000 in
theorem implPrune_any (d : VsD) (t : Int) (l f s : Sl) (hs : List SeH) (w : World) (hI : VzIn w l f s hs d) (hcs : s.a = none → s.c = 0) (hl : VsFew l f s (hs.map seR)) :
    Calls Tryz.prog 12 #[.agg (vzC d.next l f s), .int .i64 t] w fun e w' => PrRes d t w e w' := by
  obtain ⟨W, hW⟩ : ∃ W, W = (w.alloc (.cells (vzC d.next l f s) 27)).alloc (.cells #[.int .i64 0, .slice none 0 0, .slice none 0 0, .slice none 0 0] 27) := ⟨_, rfl⟩
  obtain ⟨b1, kv, kr, hz⟩ := twoBx hW
  have hz0 : w.heap.size < W.heap.size := by omega
  have hz1 : w.heap.size + 1 < W.heap.size := by omega
  have CO := hide (implVersionsOK_any l f s (hs.map seR) d W ((vs_of_vz hI).below b1) hl)
  have hmf : ∀ (fn : Fn) (first cap : Array Value) (w : World), (Instr.makeFunc fn first cap).run Tryz.prog w = .ok (.func fn first cap) w := fun _ _ _ _ => rfl
  have BH := hide b1
  have HI := hide hI
  have HCS := hide hcs
  have HL := hide hl
  obtain ⟨la, ln, lc⟩ := l
  obtain ⟨fa, fn, fc⟩ := f
  obtain ⟨sa, sn, sc⟩ := s
  unfold vzC at *
  unfold vsv at CO
  simp only at hW kv CO HCS ⊢
  have KV := hide kv
  have KR := hide kr
  have v0 := (heap_at kv 0).1
  have v1 := (heap_at kv 1).1
  have v2 := (heap_at kv 2).1
  have v3 := (heap_at kv 3).1
  clear hI hl b1 hz kv kr hcs
  go_enter Tryz.func12, Tryz.ntmps12
  go_wp2_with fail
  rw [← hW]
  clear hW
  refine (unhide CO).mono ?_
  rintro e w1 ⟨rfl, hb1⟩
  clear CO v0 v1 v2 v3
  have B1 := hide ((unhide BH).trans (hb1.mono (unhide BH).size))
  have K1 := hide ((hb1.block (w.heap.size + 1) hz1).trans (unhide KR))
  have kv := (hb1.block w.heap.size hz0).trans (unhide KV)
  have v0 := (heap_at kv 0).1
  have v1 := (heap_at kv 1).1
  have v2 := (heap_at kv 2).1
  have v3 := (heap_at kv 3).1
  have S1 := hb1.size
  clear hb1 kv KR KV
  cases hok : okVsD d with
  | false =>
    have kr := unhide K1
    have y0 := (heap_at kr 0).1
    have y1 := (heap_at kr 1).1
    have y2 := (heap_at kr 2).1
    have y3 := (heap_at kr 3).1
    have yf0 := (heap_at kr 0).2
    have yf1 := (heap_at kr 1).2
    have yf2 := (heap_at kr 2).2
    have yf3 := (heap_at kr 3).2
    have RES := hide (pr_bad (t := t) (w := w) (w' := ((((w1.setCell ⟨w.heap.size + 1, 0, none⟩ (.int .i64 0)).setCell ⟨w.heap.size + 1, 1, none⟩ (.slice none 0 0)).setCell ⟨w.heap.size + 1, 2, none⟩ (.slice none 0 0)).setCell ⟨w.heap.size + 1, 3, none⟩ (.slice none 0 0))) hok (bel_sv4 (unhide B1) (by omega) _ _ _ _))
    clear kr
    go_wp2_with fail
    refine bodyPost_ret (v := .tuple #[.agg #[.int .i64 0, .slice none 0 0, .slice none 0 0, .slice none 0 0], .int .i64 1]) (by simp [results, Tryz.results12, go_sem, *]) rfl ?_
    exact unhide RES
  | true =>
    obtain ⟨t1, t2, t3, t4, t5⟩ := okVs_top hok
    have I1 := (unhide HI).below (unhide B1)
    have hln := I1.vr.1
    simp only at hln
    have CL := hide (ledgerOf_any d ⟨la, ln, lc⟩ ⟨fa, fn, fc⟩ ⟨sa, sn, sc⟩ hs w1 I1 (unhide HCS) (unhide HL) (by show ln ≤ 4096; omega) (fun i hi => by have := verK_small (okVs_ver t4 hi); unfold maxLen; omega))
    unfold vzC at CL
    simp only at CL
    clear I1 hln HI HCS HL
    go_wp2_with fail
    refine (unhide CL).mono ?_
    rintro e w2 ⟨lb, m, N, hf, ⟨fa2, fn2, fc2⟩, ⟨sa2, sn2, sc2⟩, hs2, rfl, hLD, hN, hX, hb2⟩
    have B2 := hide ((unhide B1).trans (hb2.mono (unhide B1).size))
    have K2 := hide ((hb2.block (w.heap.size + 1) (blk_lt (unhide K1))).trans (unhide K1))
    have hlb : w1.heap.size ≤ lb := hLD.lge
    have hR := hLD.so.reads
    have hsn : sn2 = hs2.length := owns_n hLD.so.row
    have hs4 : hs2.length = 4 := by rw [← t3, ← hX, List.length_map]
    have CH := hide (horizon_any lb d (.map (some m)) ⟨fa2, fn2, fc2⟩ ⟨sa2, sn2, sc2⟩ hs2 w2 hLD.box (by show SeIn w2 (.slice sa2 sn2 sc2) sn2 hs2; rw [hsn]; rw [hsn] at hR; exact hR) hX (by show sn2 ≤ 10; omega))
    have LD := hide hLD
    have HX := hide hX
    have HSN := hide (And.intro hsn hs4)
    have S2 := hb2.size
    clear CL hb2 hLD hR hX hsn hs4 v0 v1 v2 v3 K1
    go_wp2_with fail
    refine (unhide CH).mono ?_
    rintro e w3 ⟨rfl, hb3⟩
    obtain ⟨U, hU⟩ : ∃ U, U = w3.alloc (.cells #[.int .i64 (leastV d)] 3) := ⟨_, rfl⟩
    have bU : Below w3.heap.size w3 U := by rw [hU]; exact (Below.refl _ _).alloc (Nat.le_refl _) _
    have kU : U.heap[w3.heap.size]? = some (.cells #[.int .i64 (leastV d)] 3 (0, 0)) := by rw [hU]; exact heap_alloc_new _ _
    have b3 := hb3.trans (bU.mono hb3.size)
    have B3 := hide ((unhide B2).trans (b3.mono (unhide B2).size))
    have K3 := hide ((b3.block (w.heap.size + 1) (blk_lt (unhide K2))).trans (unhide K2))
    have KU := hide kU
    have u0 := (heap_at kU 0).1
    have S3 := b3.size
    have hbx : lb < w3.heap.size := Nat.lt_of_lt_of_le (blk_lt (unhide LD).box) hb3.size
    have hub : w3.heap.size ≠ lb := by omega
    have LB3 := hide ((b3.block lb (blk_lt (unhide LD).box)).trans (unhide LD).box)
    have HA := hide ((unhide LD).his.below b3)
    have FO := hide (rb_ownsRow_below (unhide LD).fo b3)
    have SO := hide ((unhide LD).so.below b3)
    have hm2 : m < w2.heap.size := (unhide LD).his.map.lt
    have hmg : w1.heap.size ≤ m := (unhide LD).mge
    clear CH hb3 bU kU b3
    by_cases hle : leastV d ≤ t
    · have RES := hide (fun u hb => pr_state (t := t) (w := w) (w' := u) hok hle hb)
      have kr := unhide K3
      have y0 := (heap_at kr 0).1
      have y1 := (heap_at kr 1).1
      have y2 := (heap_at kr 2).1
      have y3 := (heap_at kr 3).1
      have yf0 := (heap_at kr 0).2
      have yf1 := (heap_at kr 1).2
      have yf2 := (heap_at kr 2).2
      have yf3 := (heap_at kr 3).2
      rw [hU] at y0 y1 y2 y3 yf0 yf1 yf2 yf3
      have BF := hide (bel_sv4 (unhide B3) (b := w.heap.size + 1) (by omega) (.int .i64 0) (.slice none 0 0) (.slice none 0 0) (.slice none 0 0))
      unfold sv4 at BF
      rw [hU] at BF
      clear kr K3 B3 hU HA FO SO LB3 u0 KU LD
      generalize leastV d = lv at *
      go_wp2_with fail
      refine bodyPost_ret (v := .tuple #[.agg #[.int .i64 0, .slice none 0 0, .slice none 0 0, .slice none 0 0], .int .i64 8]) (by simp [results, Tryz.results12, go_sem, *]) rfl ?_
      exact unhide RES _ (unhide BF)
    · have CP := hide (pruned_any m N hf d.list t U (unhide HA).rd t4 (by omega) t1)
      have l1 := (heap_at (unhide LB3) 1).1
      simp only [List.getElem?_toArray, List.getElem?_cons_zero, List.getElem?_cons_succ] at l1
      have HLE := hide hle
      have SZ := hide (show w1.heap.size ≤ U.heap.size by omega)
      have l1' := l1
      rw [hU] at l1'
      have u0' := u0
      rw [hU] at u0'
      go_wp2_with fail
      rw [← hU]
      clear hU l1' u0'
      refine (unhide CP).mono ?_
      rintro e w4 ⟨m2, N2, rfl, hR4, hm4, hN4, hb4⟩
      have LB4 := (hb4.block lb (blk_lt (unhide LB3))).trans (unhide LB3)
      have HA4 := (unhide HA).below hb4
      have FO4 := rb_ownsRow_below (unhide FO) hb4
      have SO4 := (unhide SO).below hb4
      have KU4 := (hb4.block w3.heap.size (blk_lt (unhide KU))).trans (unhide KU)
      have K4 := (hb4.block (w.heap.size + 1) (blk_lt (unhide K3))).trans (unhide K3)
      have B4 := (unhide B3).trans (hb4.mono (unhide B3).size)
      have l1 := (heap_at LB4 1).1
      have lf1 := (heap_at LB4 1).2
      simp only [List.getElem?_toArray, List.getElem?_cons_zero, List.getElem?_cons_succ] at l1
      -- the new history is stored
      obtain ⟨w5, h5⟩ : ∃ w5, w5 = w4.setCell ⟨lb, 1, none⟩ (.map (some m2)) := ⟨_, rfl⟩
      have W5 : WrB (fun i => i = lb) w4 w5 := by rw [h5]; exact set1_wr _ _ _ _
      have LB5 : w5.heap[lb]? = some (.cells #[.int .i64 d.next, .map (some m2), .slice fa2 fn2 fc2, .slice sa2 sn2 sc2] 86 (0, 0)) := by rw [h5]; exact heap_set LB4 1 _
      have nov5 : ∀ i, i = lb → NoV w4 i := fun i e => by rw [e]; exact noV_kind LB4 (by decide)
      have HR5 := hisp_wr HA4 hR4 W5 (hR4.map.ne LB4) nov5
      have HA5 := HA4.wr W5 (HA4.map.ne LB4) nov5
      have FO5 := own_keep FO4 LB4 (by decide) W5
      have SO5 := NOwn.keep SO4 W5 (fun i hi e => by rw [e] at hi; exact se_far SO4 LB4 (by decide) (by decide) hi)
      have KU5 := (W5.block w3.heap.size (blk_lt KU4) hub).trans KU4
      have K5 := (W5.block (w.heap.size + 1) (blk_lt K4) (by omega)).trans K4
      have B5 := B4.trans (WrB.below W5 (fun i e => by rw [e]; omega) B4.size)
      have l2 := (heap_at LB5 2).1
      simp only [List.getElem?_toArray, List.getElem?_cons_zero, List.getElem?_cons_succ] at l2
      rw [h5] at l2
      have hfn : fn2 = d.fen.length := owns_n FO5
      have CD := hide (deleteOld_any w1.heap.size w3.heap.size fa2 fn2 fc2 d.fen (leastV d) w5 (by omega) FO5 (heap_at KU5 0).1 (by have := W5.size; have := hb4.size; have := unhide SZ; omega) (own_box FO5 KU5 (by decide)))
      have F5 := hide (And.intro HR5 HA5)
      have G5 := hide (And.intro FO5 SO5)
      have J5 := hide (And.intro LB5 (And.intro K5 B5))
      have S4 := hide (show w1.heap.size ≤ w5.heap.size by have := W5.size; have := hb4.size; have := unhide SZ; omega)
      clear CP HA FO SO KU K3 B3 LB3 u0 hb4 hR4 LB4 HA4 FO4 SO4 KU4 K4 B4 W5 LB5 nov5 HR5 HA5 FO5 SO5 KU5 K5 B5 hfn
      go_wp2_with fail
      rw [← h5]
      clear h5 l1 lf1 l2
      refine (unhide CD).mono ?_
      rintro e w6 ⟨v6, rfl, FO6, hg6⟩
      obtain ⟨⟨fa6, fn6, fc6⟩, rfl, -⟩ := v_slice FO6
      obtain ⟨HR5, HA5⟩ := unhide F5
      obtain ⟨FO5, SO5⟩ := unhide G5
      obtain ⟨LB5, K5, B5⟩ := unhide J5
      have W6 := grown_wr hg6
      have LB6 := (W6.block lb (blk_lt LB5) (own_box FO5 LB5 (by decide))).trans LB5
      have nov6 : ∀ i, (Value.slice fa2 fn2 fc2).ownBlock = some i → NoV w5 i := fun i e => by
        obtain ⟨cur, hc⟩ := own_kind FO5 e
        exact noV_kind hc (by decide)
      have ne6 : ∀ i, (Value.slice fa2 fn2 fc2).ownBlock = some i → ∃ cur, w5.heap[i]? = some (.cells cur 90 (0, 0)) := fun i e => own_kind FO5 e
      have HR6 := hisp_wr HA5 HR5 W6 (fun e => by obtain ⟨cur, hc⟩ := ne6 _ e; exact HR5.map.ne hc rfl) nov6
      have HA6 := HA5.wr W6 (fun e => by obtain ⟨cur, hc⟩ := ne6 _ e; exact HA5.map.ne hc rfl) nov6
      have SO6 := NOwn.keep SO5 W6 (fun i hi e => by obtain ⟨cur, hc⟩ := ne6 _ e; exact se_far SO5 hc (by decide) (by decide) hi)
      have K6 := (W6.block (w.heap.size + 1) (blk_lt K5) (fun e => by have := (World.ownsRow.lt FO5 _ e).1; omega)).trans K5
      have B6 := B5.trans (WrB.below W6 (fun i e => by have := (World.ownsRow.lt FO5 _ e).1; omega) B5.size)
      have l2 := (heap_at LB6 2).1
      have lf2 := (heap_at LB6 2).2
      simp only [List.getElem?_toArray, List.getElem?_cons_zero, List.getElem?_cons_succ] at l2
      -- the fences that are left are stored
      obtain ⟨w7, h7⟩ : ∃ w7, w7 = w6.setCell ⟨lb, 2, none⟩ (.slice fa6 fn6 fc6) := ⟨_, rfl⟩
      have W7 : WrB (fun i => i = lb) w6 w7 := by rw [h7]; exact set1_wr _ _ _ _
      have LB7 : w7.heap[lb]? = some (.cells #[.int .i64 d.next, .map (some m2), .slice fa6 fn6 fc6, .slice sa2 sn2 sc2] 86 (0, 0)) := by rw [h7]; exact heap_set LB6 2 _
      have nov7 : ∀ i, i = lb → NoV w6 i := fun i e => by rw [e]; exact noV_kind LB6 (by decide)
      have HR7 := hisp_wr HA6 HR6 W7 (HR6.map.ne LB6) nov7
      have FO7 := own_keep FO6 LB6 (by decide) W7
      have SO7 := NOwn.keep SO6 W7 (fun i hi e => by rw [e] at hi; exact se_far SO6 LB6 (by decide) (by decide) hi)
      have K7 := (W7.block (w.heap.size + 1) (blk_lt K6) (by omega)).trans K6
      have B7 := B6.trans (WrB.below W7 (fun i e => by rw [e]; omega) B6.size)
      have hsr := SO7.reads
      rw [← (unhide HSN).1] at hsr
      have hpl := prTo_len d.list t d.list.length
      have LR : LdRd w7 lb m2 N2 (fun k => prS (hf k) (grp d.list k) t) ⟨fa6, fn6, fc6⟩ ⟨sa2, sn2, sc2⟩ hs2 ⟨d.next, prL d.list t, prF d.fen (leastV d), d.ses⟩ := ⟨LB7, HR7, by show FRow w7 fa6 fn6 (prF d.fen (leastV d)); rw [prF_new]; exact frow_of_owns FO7, cap_of_owns (s := ⟨fa6, fn6, fc6⟩) FO7, hsr, (cap_of_owns (s := ⟨sa2, sn2, sc2⟩) SO7.row).2, fun x hx => by
        obtain ⟨k, hk, rfl⟩ := List.getElem_of_mem hx
        exact cap_of_owns (SO7.dat k 0 _ (by unfold sbAt; rw [seEl_at hk]; rfl)), unhide HX⟩
      have hf6 : fn6 ≤ 4096 := by
        have h1 : fn6 = (d.fen.filter (newF (leastV d))).length := owns_n FO7
        have h2 := List.length_filter_le (newF (leastV d)) d.fen
        omega
      have CV := hide (versions_any lb m2 N2 _ ⟨fa6, fn6, fc6⟩ ⟨sa2, sn2, sc2⟩ hs2 ⟨d.next, prL d.list t, prF d.fen (leastV d), d.ses⟩ w7 LR (prL_ok t4 t) hN4 (by show (prL d.list t).length ≤ 100000; unfold prL; omega) (by show fn6 ≤ 1000000; omega) (by show sn2 ≤ 1000000; have := (unhide HSN); omega) (fun x hx => by have := ses_few hsr (unhide HX) t5 x hx; omega))
      have J7 := hide (And.intro K7 B7)
      have S7 := hide (show w.heap.size + 1 < w7.heap.size from blk_lt K7)
      clear CD F5 G5 J5 FO6 hg6 HR5 HA5 FO5 SO5 LB5 K5 B5 W6 LB6 nov6 ne6 HR6 HA6 SO6 K6 B6 W7 LB7 nov7 HR7 FO7 SO7 K7 B7 hsr hpl LR hf6
      go_wp2_with fail
      rw [← h7]
      clear h7 l2 lf2
      refine (unhide CV).mono ?_
      rintro e w8 ⟨⟨xa, xn, xc⟩, ⟨ya, yn, yc⟩, ⟨za, zn, zc⟩, hs8, rfl, hV8, hb8⟩
      unfold vzC
      simp only
      have kr := (hb8.block (w.heap.size + 1) (blk_lt (unhide J7).1)).trans (unhide J7).1
      have y0 := (heap_at kr 0).1
      have y1 := (heap_at kr 1).1
      have y2 := (heap_at kr 2).1
      have y3 := (heap_at kr 3).1
      have yf0 := (heap_at kr 0).2
      have yf1 := (heap_at kr 1).2
      have yf2 := (heap_at kr 2).2
      have yf3 := (heap_at kr 3).2
      have b8 := (unhide J7).2.trans (hb8.mono (unhide J7).2.size)
      have RES := hide (pr_ok (t := t) (w := w) hok (by have := unhide HLE; omega) ((hV8.sv (b := w.heap.size + 1) (unhide S7) (.int .i64 d.next) (.slice xa xn xc) (.slice ya yn yc) (.slice za zn zc)).dn (by have := unhide S7; omega)) (bel_sv4 b8 (b := w.heap.size + 1) (by omega) (.int .i64 d.next) (.slice xa xn xc) (.slice ya yn yc) (.slice za zn zc)))
      unfold sv4 at RES
      simp only at RES
      clear kr b8 hV8 hb8 CV J7
      go_wp2_with fail
      refine bodyPost_ret (v := .tuple #[.agg #[.int .i64 d.next, .slice xa xn xc, .slice ya yn yc, .slice za zn zc], .int .i64 0]) (by simp [results, Tryz.results12, go_sem, *]) rfl ?_
      exact unhide RES
end Go.Proofs.YtfajenejngddeaaGreat

namespace Go.Proofs.YtfajenejngddeaaGreat
open Go.RowKit

set_option maxRecDepth 100000 in
set_option maxHeartbeats 16000000 in
theorem lawPrune_any (l f s : Sl) (rs : List SesR) (d : VsD) (t : Int) (w : World) (hI : VsAt w l f s rs d) (hi : VsIn l f s rs d) (_ : (Lit.int .i64 t).wf = true) :
    Calls Tryz.prog 4 #[vsv d.next l f s, .int .i64 t] w fun e w' => e = .returned (.bool true) ∧ Below w.heap.size w w' := by
  obtain ⟨hs, hR⟩ := vzr_in hI
  have P := hide hR
  have CON := hide (show ∀ W e W', PrRes d t W e W' → ∃ l f s hs, e = .returned (.tuple #[.agg (vzC (prV d t).next l f s), .int .i64 (prC d t)]) ∧ VzOwn W' W.heap.size l f s hs (prV d t) ∧ Below W.heap.size W W' from fun W e W' h => h)
  have hf := prL_few d t
  obtain ⟨R, hT⟩ : ∃ R, R = prV d t := ⟨_, rfl⟩
  obtain ⟨C, hC⟩ : ∃ x, x = prC d t := ⟨_, rfl⟩
  have CON2 := hide (show ∀ W e W', PrRes d t W e W' → ∃ l f s hs, e = .returned (.tuple #[.agg (vzC R.next l f s), .int .i64 C]) ∧ VzOwn W' W.heap.size l f s hs R ∧ Below W.heap.size W W' by rw [hT, hC]; exact unhide CON)
  clear CON
  rw [← hT] at hf
  obtain ⟨RN, hRN⟩ : ∃ x, x = R.next := ⟨_, rfl⟩
  rw [← hRN] at CON2
  clear hT hC hRN hR
  have hCC : (C != C) = false := by simp
  obtain ⟨la, ln, lc⟩ := l
  obtain ⟨fa, fn, fc⟩ := f
  obtain ⟨sa, sn, sc⟩ := s
  unfold vsv
  simp only
  have B : Below w.heap.size w (w.alloc (.cells #[.int .i64 d.next, .slice la ln lc, .slice fa fn fc, .slice sa sn sc] 52)) := (Below.refl _ _).alloc (Nat.le_refl _) _
  have K_a := hide (heap_alloc_new w (.cells #[.int .i64 d.next, .slice la ln lc, .slice fa fn fc, .slice sa sn sc] 52))
  have z0 : (w.alloc (.cells #[.int .i64 d.next, .slice la ln lc, .slice fa fn fc, .slice sa sn sc] 52)).heap.size = w.heap.size + 1 := by simp
  have HS := hide (szVersions_sum d.next ⟨la, ln, lc⟩ ⟨fa, fn, fc⟩ ⟨sa, sn, sc⟩ rs d (w.alloc (.cells #[.int .i64 d.next, .slice la ln lc, .slice fa fn fc, .slice sa sn sc] 52)) (hI.below B) hi)
  unfold vsv at HS
  simp only at HS
  clear hI hi
  go_enter Tryz.func4, Tryz.ntmps4
  go_wp2_with fail
  generalize w.alloc (.cells #[.int .i64 d.next, .slice la ln lc, .slice fa fn fc, .slice sa sn sc] 52) = W0 at *
  refine (unhide HS).mono ?_
  rintro e w_z ⟨q0, rfl, hq, hb⟩
  replace K_a := hide ((hb.block _ (by omega)).trans (unhide K_a))
  replace B := B.trans (hb.mono B.size)
  have zz_w_z := hb.size
  clear hb HS
  rcases hq with rfl | ⟨q1, q2⟩
  · go_wp2_with fail
    go_ret
    exact ⟨rfl, B⟩
  have HN : vsN d ≤ 1048576 := q2
  have HR : vsN R ≤ 1048576 := by omega
  clear q2 hf
  have p0_a := (heap_at (unhide K_a) 0).1
  have p1_a := (heap_at (unhide K_a) 1).1
  have p2_a := (heap_at (unhide K_a) 2).1
  have p3_a := (heap_at (unhide K_a) 3).1
  go_wp2_with fail
  refine (toVersZ_any d.next ⟨la, ln, lc⟩ ⟨fa, fn, fc⟩ ⟨sa, sn, sc⟩ hs d w_z ((unhide P).below B) HN).mono ?_
  rintro e w_t ⟨l_t, f_t, s_t, hs_t, rfl, na_t, oo, hb⟩
  obtain ⟨la_t, ln_t, lc_t⟩ := l_t
  obtain ⟨fa_t, fn_t, fc_t⟩ := f_t
  obtain ⟨sa_t, sn_t, sc_t⟩ := s_t
  simp only [vzC] at na_t ⊢
  clear p0_a p1_a p2_a p3_a
  replace K_a := hide ((hb.block _ (by omega)).trans (unhide K_a))
  replace B := B.trans (hb.mono B.size)
  have zz_w_t := hb.size
  clear hb
  have O_t := hide oo
  have M_t := fun i h => (unhide O_t).lt i h
  clear oo
  go_wp2_with fail
  refine (specPrune_any d t ⟨la_t, ln_t, lc_t⟩ ⟨fa_t, fn_t, fc_t⟩ ⟨sa_t, sn_t, sc_t⟩ hs_t w_t (unhide O_t).reads (vsfew_of (unhide O_t).reads HN)).mono ?_
  intro e w_w hcon
  obtain ⟨l_w, f_w, s_w, hs_w, rfl, oo, hb⟩ := unhide CON2 _ _ _ hcon
  clear hcon
  obtain ⟨la_w, ln_w, lc_w⟩ := l_w
  obtain ⟨fa_w, fn_w, fc_w⟩ := f_w
  obtain ⟨sa_w, sn_w, sc_w⟩ := s_w
  simp only [vzC]
  replace K_a := hide ((hb.block _ (by omega)).trans (unhide K_a))
  replace O_t := hide ((unhide O_t).below hb)
  replace B := B.trans (hb.mono B.size)
  have zz_w_w := hb.size
  clear hb
  have O_w := hide oo
  have M_w := fun i h => (unhide O_w).lt i h
  clear oo
  have hb : Below w_w.heap.size w_w (w_w.alloc (.cells #[.int .i64 RN, .slice la_w ln_w lc_w, .slice fa_w fn_w fc_w, .slice sa_w sn_w sc_w] 27)) := (Below.refl _ _).alloc (Nat.le_refl _) _
  have K_w := hide (heap_alloc_new w_w (.cells #[.int .i64 RN, .slice la_w ln_w lc_w, .slice fa_w fn_w fc_w, .slice sa_w sn_w sc_w] 27))
  have sz_w : (w_w.alloc (.cells #[.int .i64 RN, .slice la_w ln_w lc_w, .slice fa_w fn_w fc_w, .slice sa_w sn_w sc_w] 27)).heap.size = w_w.heap.size + 1 := by simp
  replace K_a := hide ((hb.block _ (by omega)).trans (unhide K_a))
  replace O_t := hide ((unhide O_t).below hb)
  replace O_w := hide ((unhide O_w).below hb)
  replace B := B.trans (hb.mono B.size)
  have zz_b_w := hb.size
  clear hb
  go_upto_region 6 with fail
  generalize w_w.alloc (.cells #[.int .i64 RN, .slice la_w ln_w lc_w, .slice fa_w fn_w fc_w, .slice sa_w sn_w sc_w] 27) = b_w at *
  clear O_t M_t
  have p0_a := (heap_at (unhide K_a) 0).1
  have p1_a := (heap_at (unhide K_a) 1).1
  have p2_a := (heap_at (unhide K_a) 2).1
  have p3_a := (heap_at (unhide K_a) 3).1
  go_wp2_with fail
  refine (toVersZ_any d.next ⟨la, ln, lc⟩ ⟨fa, fn, fc⟩ ⟨sa, sn, sc⟩ hs d b_w ((unhide P).below B) HN).mono ?_
  rintro e w_x ⟨l_x, f_x, s_x, hs_x, rfl, na_x, oo, hb⟩
  obtain ⟨la_x, ln_x, lc_x⟩ := l_x
  obtain ⟨fa_x, fn_x, fc_x⟩ := f_x
  obtain ⟨sa_x, sn_x, sc_x⟩ := s_x
  simp only [vzC] at na_x ⊢
  clear p0_a p1_a p2_a p3_a
  replace K_a := hide ((hb.block _ (by omega)).trans (unhide K_a))
  replace O_w := hide ((unhide O_w).below hb)
  replace K_w := hide ((hb.block _ (by omega)).trans (unhide K_w))
  replace B := B.trans (hb.mono B.size)
  have zz_w_x := hb.size
  clear hb
  have O_x := hide oo
  have M_x := fun i h => (unhide O_x).lt i h
  clear oo
  have hb : Below w_x.heap.size w_x (w_x.alloc (.cells #[.int .i64 d.next, .slice la_x ln_x lc_x, .slice fa_x fn_x fc_x, .slice sa_x sn_x sc_x] 27)) := (Below.refl _ _).alloc (Nat.le_refl _) _
  have K_x := hide (heap_alloc_new w_x (.cells #[.int .i64 d.next, .slice la_x ln_x lc_x, .slice fa_x fn_x fc_x, .slice sa_x sn_x sc_x] 27))
  have sz_x : (w_x.alloc (.cells #[.int .i64 d.next, .slice la_x ln_x lc_x, .slice fa_x fn_x fc_x, .slice sa_x sn_x sc_x] 27)).heap.size = w_x.heap.size + 1 := by simp
  replace K_a := hide ((hb.block _ (by omega)).trans (unhide K_a))
  replace O_w := hide ((unhide O_w).below hb)
  replace K_w := hide ((hb.block _ (by omega)).trans (unhide K_w))
  replace O_x := hide ((unhide O_x).below hb)
  replace B := B.trans (hb.mono B.size)
  have zz_b_x := hb.size
  clear hb
  go_upto_region 7 with fail
  generalize w_x.alloc (.cells #[.int .i64 d.next, .slice la_x ln_x lc_x, .slice fa_x fn_x fc_x, .slice sa_x sn_x sc_x] 27) = b_x at *
  have p0_x := (heap_at (unhide K_x) 0).1
  have p1_x := (heap_at (unhide K_x) 1).1
  have p2_x := (heap_at (unhide K_x) 2).1
  have p3_x := (heap_at (unhide K_x) 3).1
  go_wp2_with fail
  refine (implPrune_any d t ⟨la_x, ln_x, lc_x⟩ ⟨fa_x, fn_x, fc_x⟩ ⟨sa_x, sn_x, sc_x⟩ hs_x b_x (unhide O_x).reads (fun h => absurd h na_x) (vsfew_of (unhide O_x).reads HN)).mono ?_
  intro e w_g hcon
  obtain ⟨l_g, f_g, s_g, hs_g, rfl, oo, hb⟩ := unhide CON2 _ _ _ hcon
  clear hcon
  obtain ⟨la_g, ln_g, lc_g⟩ := l_g
  obtain ⟨fa_g, fn_g, fc_g⟩ := f_g
  obtain ⟨sa_g, sn_g, sc_g⟩ := s_g
  simp only [vzC]
  replace K_a := hide ((hb.block _ (by omega)).trans (unhide K_a))
  replace O_w := hide ((unhide O_w).below hb)
  replace K_w := hide ((hb.block _ (by omega)).trans (unhide K_w))
  replace O_x := hide ((unhide O_x).below hb)
  replace K_x := hide ((hb.block _ (by omega)).trans (unhide K_x))
  replace B := B.trans (hb.mono B.size)
  have zz_w_g := hb.size
  clear hb
  have O_g := hide oo
  have M_g := fun i h => (unhide O_g).lt i h
  clear oo
  have hb : Below w_g.heap.size w_g (w_g.alloc (.cells #[.int .i64 RN, .slice la_g ln_g lc_g, .slice fa_g fn_g fc_g, .slice sa_g sn_g sc_g] 27)) := (Below.refl _ _).alloc (Nat.le_refl _) _
  have K_g := hide (heap_alloc_new w_g (.cells #[.int .i64 RN, .slice la_g ln_g lc_g, .slice fa_g fn_g fc_g, .slice sa_g sn_g sc_g] 27))
  have sz_g : (w_g.alloc (.cells #[.int .i64 RN, .slice la_g ln_g lc_g, .slice fa_g fn_g fc_g, .slice sa_g sn_g sc_g] 27)).heap.size = w_g.heap.size + 1 := by simp
  replace K_a := hide ((hb.block _ (by omega)).trans (unhide K_a))
  replace O_w := hide ((unhide O_w).below hb)
  replace K_w := hide ((hb.block _ (by omega)).trans (unhide K_w))
  replace O_x := hide ((unhide O_x).below hb)
  replace K_x := hide ((hb.block _ (by omega)).trans (unhide K_x))
  replace O_g := hide ((unhide O_g).below hb)
  replace B := B.trans (hb.mono B.size)
  have zz_b_g := hb.size
  clear hb
  go_upto_region 8 with fail
  generalize w_g.alloc (.cells #[.int .i64 RN, .slice la_g ln_g lc_g, .slice fa_g fn_g fc_g, .slice sa_g sn_g sc_g] 27) = b_g at *
  clear p0_x p1_x p2_x p3_x
  have p0_g := (heap_at (unhide K_g) 0).1
  have p1_g := (heap_at (unhide K_g) 1).1
  have p2_g := (heap_at (unhide K_g) 2).1
  have p3_g := (heap_at (unhide K_g) 3).1
  have p0_w := (heap_at (unhide K_w) 0).1
  have p1_w := (heap_at (unhide K_w) 1).1
  have p2_w := (heap_at (unhide K_w) 2).1
  have p3_w := (heap_at (unhide K_w) 3).1
  go_wp2_with fail
  refine (eqVersZ RN ⟨la_g, ln_g, lc_g⟩ ⟨fa_g, fn_g, fc_g⟩ ⟨sa_g, sn_g, sc_g⟩ hs_g ⟨la_w, ln_w, lc_w⟩ ⟨fa_w, fn_w, fc_w⟩ ⟨sa_w, sn_w, sc_w⟩ hs_w R b_g (unhide O_g).reads (unhide O_w).reads HR).mono ?_
  rintro e e1 ⟨rfl, hb⟩
  clear p0_g p1_g p2_g p3_g
  clear p0_w p1_w p2_w p3_w
  replace K_a := hide ((hb.block _ (by omega)).trans (unhide K_a))
  replace O_w := hide ((unhide O_w).below hb)
  replace K_w := hide ((hb.block _ (by omega)).trans (unhide K_w))
  replace O_x := hide ((unhide O_x).below hb)
  replace K_x := hide ((hb.block _ (by omega)).trans (unhide K_x))
  replace O_g := hide ((unhide O_g).below hb)
  replace K_g := hide ((hb.block _ (by omega)).trans (unhide K_g))
  replace B := B.trans (hb.mono B.size)
  have zz_e1 := hb.size
  clear hb
  go_upto_region 10 with fail
  go_cut [49] (fun v wc => v = .bool false ∧ Below e1.heap.size e1 wc)
  case first =>
    have p0_a := (heap_at (unhide K_a) 0).1
    have p1_a := (heap_at (unhide K_a) 1).1
    have p2_a := (heap_at (unhide K_a) 2).1
    have p3_a := (heap_at (unhide K_a) 3).1
    have p0_x := (heap_at (unhide K_x) 0).1
    have p1_x := (heap_at (unhide K_x) 1).1
    have p2_x := (heap_at (unhide K_x) 2).1
    have p3_x := (heap_at (unhide K_x) 3).1
    have KP := hide (show ∀ w', w' = e1 ∨ w' = e1.drew → Calls Tryz.prog 16 #[vsv d.next ⟨la, ln, lc⟩ ⟨fa, fn, fc⟩ ⟨sa, sn, sc⟩] w' fun e w7 => ∃ l' f' s' hs', e = .returned (.agg (vzC d.next l' f' s')) ∧ VzOwn w7 e1.heap.size l' f' s' hs' d ∧ Below e1.heap.size e1 w7 from fun w' h' => by
      rcases h' with rfl | rfl
      · refine (toVersZ_any d.next ⟨la, ln, lc⟩ ⟨fa, fn, fc⟩ ⟨sa, sn, sc⟩ hs d _ ((unhide P).below B) HN).mono ?_
        rintro e w7 ⟨l', f', s', hs', e, _, o, b⟩
        exact ⟨l', f', s', hs', e, o, b⟩
      · refine (toVersZ_any d.next ⟨la, ln, lc⟩ ⟨fa, fn, fc⟩ ⟨sa, sn, sc⟩ hs d e1.drew ((unhide P).below B.drew) HN).mono ?_
        rintro e w7 ⟨l', f', s', hs', e, _, o, b⟩
        exact ⟨l', f', s', hs', e, o, bel_od b⟩)
    unfold vsv at KP
    simp only at KP
    have YP := hide (show ∀ w7, Below e1.heap.size e1 w7 → w7.heap[w_x.heap.size]? = _ ∧ VzOwn w7 _ ⟨la_x, ln_x, lc_x⟩ ⟨fa_x, fn_x, fc_x⟩ ⟨sa_x, sn_x, sc_x⟩ hs_x d from fun w7 hb => ⟨((hb.block _ (by omega)).trans (unhide K_x)), (unhide O_x).below hb⟩)
    go_region_with (first
      | (go_at_call 16
         refine (unhide KP _ (by first | exact .inl rfl | exact .inr rfl)).mono ?_
         rintro e w7 ⟨l', f', s', hs', rfl, o7, b7⟩
         obtain ⟨k7, o7'⟩ := unhide YP w7 b7
         have t0' := (heap_at k7 0).1
         have t1' := (heap_at k7 1).1
         have t2' := (heap_at k7 2).1
         have t3' := (heap_at k7 3).1
         have H7 := hide o7
         have H7' := hide o7'
         clear o7 o7' k7)
      | (go_at_call 17
         refine (eqVersZ d.next ⟨la_x, ln_x, lc_x⟩ ⟨fa_x, fn_x, fc_x⟩ ⟨sa_x, sn_x, sc_x⟩ hs_x l' f' s' hs' d w7 (unhide H7').reads (unhide H7).reads HN).mono ?_
         rintro e w8 ⟨rfl, b8⟩
         have b78 := b7.trans (b8.mono b7.size)
         clear b8))
    all_goals
      clear H7 H7' b7
      go_wp2_with fail
      go_meet
      case rel => exact ⟨rfl, b78⟩
  case rest =>
    obtain ⟨rfl, hb⟩ := hcut
    replace K_a := hide ((hb.block _ (by omega)).trans (unhide K_a))
    replace O_w := hide ((unhide O_w).below hb)
    replace K_w := hide ((hb.block _ (by omega)).trans (unhide K_w))
    replace O_x := hide ((unhide O_x).below hb)
    replace K_x := hide ((hb.block _ (by omega)).trans (unhide K_x))
    replace O_g := hide ((unhide O_g).below hb)
    replace K_g := hide ((hb.block _ (by omega)).trans (unhide K_g))
    replace B := B.trans (hb.mono B.size)
    have zz_wc := hb.size
    clear hb
    have p0_x := (heap_at (unhide K_x) 0).1
    have p1_x := (heap_at (unhide K_x) 1).1
    have p2_x := (heap_at (unhide K_x) 2).1
    have p3_x := (heap_at (unhide K_x) 3).1
    go_wp2_with fail
    have hkx := vzK_le (unhide O_x).reads HN
    simp only at hkx
    refine (markVersions_any _ 1 d.next ⟨la_x, ln_x, lc_x⟩ ⟨fa_x, fn_x, fc_x⟩ ⟨sa_x, sn_x, sc_x⟩ hs_x d wc (by omega) hkx (unhide O_x)).mono ?_
    rintro e wn ⟨rfl, oo, hw⟩
    clear oo
    clear p0_x p1_x p2_x p3_x
    replace K_a := hide ((hw.block _ (by omega) (fun hp => by have h2 := M_x _ hp; omega)).trans (unhide K_a))
    replace O_w := hide ((unhide O_w).off hw (fun i hi hp => by have h1 := M_w i hi; have h2 := M_x i hp; omega))
    replace K_w := hide ((hw.block _ (by omega) (fun hp => by have h2 := M_x _ hp; omega)).trans (unhide K_w))
    replace K_x := hide ((hw.block _ (by omega) (fun hp => by have h2 := M_x _ hp; omega)).trans (unhide K_x))
    replace O_g := hide ((unhide O_g).off hw (fun i hi hp => by have h1 := M_g i hi; have h2 := M_x i hp; omega))
    replace K_g := hide ((hw.block _ (by omega) (fun hp => by have h2 := M_x _ hp; omega)).trans (unhide K_g))
    replace B := B.trans (hw.below (fun i hp => by have := M_x i hp; omega) B.size)
    have zz_wn := hw.size
    clear hw
    clear O_x M_x
    have hk0 : ¬ (((vzK 1 ln_x fn_x hs_x : Nat) : Int) < 0) := by omega
    simp only
    generalize vzK 1 ln_x fn_x hs_x = km at *
    have p0_g := (heap_at (unhide K_g) 0).1
    have p1_g := (heap_at (unhide K_g) 1).1
    have p2_g := (heap_at (unhide K_g) 2).1
    have p3_g := (heap_at (unhide K_g) 3).1
    have p0_w := (heap_at (unhide K_w) 0).1
    have p1_w := (heap_at (unhide K_w) 1).1
    have p2_w := (heap_at (unhide K_w) 2).1
    have p3_w := (heap_at (unhide K_w) 3).1
    go_wp2_with fail
    refine (eqVersZ RN ⟨la_g, ln_g, lc_g⟩ ⟨fa_g, fn_g, fc_g⟩ ⟨sa_g, sn_g, sc_g⟩ hs_g ⟨la_w, ln_w, lc_w⟩ ⟨fa_w, fn_w, fc_w⟩ ⟨sa_w, sn_w, sc_w⟩ hs_w R wn (unhide O_g).reads (unhide O_w).reads HR).mono ?_
    rintro e e2 ⟨rfl, hb⟩
    clear p0_g p1_g p2_g p3_g
    clear p0_w p1_w p2_w p3_w
    replace K_a := hide ((hb.block _ (by omega)).trans (unhide K_a))
    replace O_w := hide ((unhide O_w).below hb)
    replace K_w := hide ((hb.block _ (by omega)).trans (unhide K_w))
    replace K_x := hide ((hb.block _ (by omega)).trans (unhide K_x))
    replace O_g := hide ((unhide O_g).below hb)
    replace K_g := hide ((hb.block _ (by omega)).trans (unhide K_g))
    replace B := B.trans (hb.mono B.size)
    have zz_e2 := hb.size
    clear hb
    have hkg := vzK_le (unhide O_g).reads HR
    simp only at hkg
    have p0_g := (heap_at (unhide K_g) 0).1
    have p1_g := (heap_at (unhide K_g) 1).1
    have p2_g := (heap_at (unhide K_g) 2).1
    have p3_g := (heap_at (unhide K_g) 3).1
    go_wp2_with fail
    refine (markVersions_any _ 1 RN ⟨la_g, ln_g, lc_g⟩ ⟨fa_g, fn_g, fc_g⟩ ⟨sa_g, sn_g, sc_g⟩ hs_g R e2 (by omega) hkg (unhide O_g)).mono ?_
    rintro e wm ⟨rfl, oo, hw⟩
    have G2 := hide oo
    clear oo
    clear p0_g p1_g p2_g p3_g
    replace K_a := hide ((hw.block _ (by omega) (fun hp => by have h2 := M_g _ hp; omega)).trans (unhide K_a))
    replace O_w := hide ((unhide O_w).off hw (fun i hi hp => by have h1 := M_w i hi; have h2 := M_g i hp; omega))
    replace K_w := hide ((hw.block _ (by omega) (fun hp => by have h2 := M_g _ hp; omega)).trans (unhide K_w))
    replace K_x := hide ((hw.block _ (by omega) (fun hp => by have h2 := M_g _ hp; omega)).trans (unhide K_x))
    replace K_g := hide ((hw.block _ (by omega) (fun hp => by have h2 := M_g _ hp; omega)).trans (unhide K_g))
    replace B := B.trans (hw.below (fun i hp => by have := M_g i hp; omega) B.size)
    have zz_wm := hw.size
    clear hw
    clear O_g M_g
    have O_g := G2
    have M_g := fun i h => (unhide O_g).lt i h
    clear G2
    simp only
    have hm0 : ¬ (((vzK 1 ln_g fn_g hs_g : Nat) : Int) < 0) := by omega
    have hmm : (((vzK 1 ln_g fn_g hs_g : Nat) : Int) != ((vzK 1 ln_g fn_g hs_g : Nat) : Int)) = false := by simp
    have p0_g := (heap_at (unhide K_g) 0).1
    have p1_g := (heap_at (unhide K_g) 1).1
    have p2_g := (heap_at (unhide K_g) 2).1
    have p3_g := (heap_at (unhide K_g) 3).1
    go_wp2_with fail
    refine (heldVersZ RN (unhide O_g) hkg).mono ?_
    rintro e e3 ⟨rfl, hb⟩
    simp only
    clear p0_g p1_g p2_g p3_g
    replace K_a := hide ((hb.block _ (by omega)).trans (unhide K_a))
    replace O_w := hide ((unhide O_w).below hb)
    replace K_w := hide ((hb.block _ (by omega)).trans (unhide K_w))
    replace K_x := hide ((hb.block _ (by omega)).trans (unhide K_x))
    replace K_g := hide ((hb.block _ (by omega)).trans (unhide K_g))
    replace O_g := hide ((unhide O_g).below hb)
    replace B := B.trans (hb.mono B.size)
    have zz_e3 := hb.size
    clear hb
    have p0_a := (heap_at (unhide K_a) 0).1
    have p1_a := (heap_at (unhide K_a) 1).1
    have p2_a := (heap_at (unhide K_a) 2).1
    have p3_a := (heap_at (unhide K_a) 3).1
    go_wp2_with fail
    refine (toVersZ_any d.next ⟨la, ln, lc⟩ ⟨fa, fn, fc⟩ ⟨sa, sn, sc⟩ hs d e3 ((unhide P).below B) HN).mono ?_
    rintro e w_y ⟨l_y, f_y, s_y, hs_y, rfl, na_y, oo, hb⟩
    obtain ⟨la_y, ln_y, lc_y⟩ := l_y
    obtain ⟨fa_y, fn_y, fc_y⟩ := f_y
    obtain ⟨sa_y, sn_y, sc_y⟩ := s_y
    simp only [vzC] at na_y ⊢
    clear p0_a p1_a p2_a p3_a
    replace K_a := hide ((hb.block _ (by omega)).trans (unhide K_a))
    replace O_w := hide ((unhide O_w).below hb)
    replace K_w := hide ((hb.block _ (by omega)).trans (unhide K_w))
    replace K_x := hide ((hb.block _ (by omega)).trans (unhide K_x))
    replace K_g := hide ((hb.block _ (by omega)).trans (unhide K_g))
    replace O_g := hide ((unhide O_g).below hb)
    replace B := B.trans (hb.mono B.size)
    have zz_w_y := hb.size
    clear hb
    have O_y := hide oo
    have M_y := fun i h => (unhide O_y).lt i h
    clear oo
    go_wp2_with fail
    refine (implPrune_any d t ⟨la_y, ln_y, lc_y⟩ ⟨fa_y, fn_y, fc_y⟩ ⟨sa_y, sn_y, sc_y⟩ hs_y w_y (unhide O_y).reads (fun h => absurd h na_y) (vsfew_of (unhide O_y).reads HN)).mono ?_
    intro e w_h hcon
    obtain ⟨l_h, f_h, s_h, hs_h, rfl, oo, hb⟩ := unhide CON2 _ _ _ hcon
    clear hcon
    obtain ⟨la_h, ln_h, lc_h⟩ := l_h
    obtain ⟨fa_h, fn_h, fc_h⟩ := f_h
    obtain ⟨sa_h, sn_h, sc_h⟩ := s_h
    simp only [vzC]
    replace K_a := hide ((hb.block _ (by omega)).trans (unhide K_a))
    replace O_w := hide ((unhide O_w).below hb)
    replace K_w := hide ((hb.block _ (by omega)).trans (unhide K_w))
    replace K_x := hide ((hb.block _ (by omega)).trans (unhide K_x))
    replace K_g := hide ((hb.block _ (by omega)).trans (unhide K_g))
    replace O_g := hide ((unhide O_g).below hb)
    replace O_y := hide ((unhide O_y).below hb)
    replace B := B.trans (hb.mono B.size)
    have zz_w_h := hb.size
    clear hb
    have O_h := hide oo
    have M_h := fun i h => (unhide O_h).lt i h
    clear oo
    have hb : Below w_h.heap.size w_h (w_h.alloc (.cells #[.int .i64 RN, .slice la_h ln_h lc_h, .slice fa_h fn_h fc_h, .slice sa_h sn_h sc_h] 27)) := (Below.refl _ _).alloc (Nat.le_refl _) _
    have K_h := hide (heap_alloc_new w_h (.cells #[.int .i64 RN, .slice la_h ln_h lc_h, .slice fa_h fn_h fc_h, .slice sa_h sn_h sc_h] 27))
    have sz_h : (w_h.alloc (.cells #[.int .i64 RN, .slice la_h ln_h lc_h, .slice fa_h fn_h fc_h, .slice sa_h sn_h sc_h] 27)).heap.size = w_h.heap.size + 1 := by simp
    replace K_a := hide ((hb.block _ (by omega)).trans (unhide K_a))
    replace O_w := hide ((unhide O_w).below hb)
    replace K_w := hide ((hb.block _ (by omega)).trans (unhide K_w))
    replace K_x := hide ((hb.block _ (by omega)).trans (unhide K_x))
    replace K_g := hide ((hb.block _ (by omega)).trans (unhide K_g))
    replace O_g := hide ((unhide O_g).below hb)
    replace O_y := hide ((unhide O_y).below hb)
    replace O_h := hide ((unhide O_h).below hb)
    replace B := B.trans (hb.mono B.size)
    have zz_b_h := hb.size
    clear hb
    go_upto_region 25 with fail
    generalize w_h.alloc (.cells #[.int .i64 RN, .slice la_h ln_h lc_h, .slice fa_h fn_h fc_h, .slice sa_h sn_h sc_h] 27) = b_h at *
    clear O_y M_y
    have p0_h := (heap_at (unhide K_h) 0).1
    have p1_h := (heap_at (unhide K_h) 1).1
    have p2_h := (heap_at (unhide K_h) 2).1
    have p3_h := (heap_at (unhide K_h) 3).1
    have p0_w := (heap_at (unhide K_w) 0).1
    have p1_w := (heap_at (unhide K_w) 1).1
    have p2_w := (heap_at (unhide K_w) 2).1
    have p3_w := (heap_at (unhide K_w) 3).1
    go_wp2_with fail
    refine (eqVersZ RN ⟨la_h, ln_h, lc_h⟩ ⟨fa_h, fn_h, fc_h⟩ ⟨sa_h, sn_h, sc_h⟩ hs_h ⟨la_w, ln_w, lc_w⟩ ⟨fa_w, fn_w, fc_w⟩ ⟨sa_w, sn_w, sc_w⟩ hs_w R b_h (unhide O_h).reads (unhide O_w).reads HR).mono ?_
    rintro e e4 ⟨rfl, hb⟩
    clear p0_h p1_h p2_h p3_h
    clear p0_w p1_w p2_w p3_w
    replace K_a := hide ((hb.block _ (by omega)).trans (unhide K_a))
    replace O_w := hide ((unhide O_w).below hb)
    replace K_w := hide ((hb.block _ (by omega)).trans (unhide K_w))
    replace K_x := hide ((hb.block _ (by omega)).trans (unhide K_x))
    replace K_g := hide ((hb.block _ (by omega)).trans (unhide K_g))
    replace O_g := hide ((unhide O_g).below hb)
    replace O_h := hide ((unhide O_h).below hb)
    replace K_h := hide ((hb.block _ (by omega)).trans (unhide K_h))
    replace B := B.trans (hb.mono B.size)
    have zz_e4 := hb.size
    clear hb
    have p0_g := (heap_at (unhide K_g) 0).1
    have p1_g := (heap_at (unhide K_g) 1).1
    have p2_g := (heap_at (unhide K_g) 2).1
    have p3_g := (heap_at (unhide K_g) 3).1
    go_wp2_with fail
    refine (heldVersZ RN (unhide O_g) hkg).mono ?_
    rintro e e5 ⟨rfl, hb⟩
    simp only
    clear p0_g p1_g p2_g p3_g
    replace K_a := hide ((hb.block _ (by omega)).trans (unhide K_a))
    replace O_w := hide ((unhide O_w).below hb)
    replace K_w := hide ((hb.block _ (by omega)).trans (unhide K_w))
    replace K_x := hide ((hb.block _ (by omega)).trans (unhide K_x))
    replace K_g := hide ((hb.block _ (by omega)).trans (unhide K_g))
    replace O_g := hide ((unhide O_g).below hb)
    replace O_h := hide ((unhide O_h).below hb)
    replace K_h := hide ((hb.block _ (by omega)).trans (unhide K_h))
    replace B := B.trans (hb.mono B.size)
    have zz_e5 := hb.size
    clear hb
    go_wp2_with fail
    go_ret
    exact ⟨rfl, B⟩
end Go.Proofs.YtfajenejngddeaaGreat
