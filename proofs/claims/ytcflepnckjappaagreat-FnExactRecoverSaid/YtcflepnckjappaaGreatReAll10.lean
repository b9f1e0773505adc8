/-
  VeK, VeI, PuB, PuC, LgD, LgE, StS, PrC, DeF, StD, LgF, LgG, LgI, StA, LgH, LgJ, LgK, LgL in one.
-/
import Derived.Test.YtcflepnckjappaaGreatReAll1
import Derived.Test.YtcflepnckjappaaGreatReAll8
import Derived.Test.YtcflepnckjappaaGreatIter
import Derived.Test.YtcflepnckjappaaGreatReAll2
import Derived.Test.YtcflepnckjappaaGreatKdA
import Derived.Shelf.Slices.CompactS
import Derived.Shelf.SortM.Plain
import Derived.Sort.OwnSorted
import Derived.Test.YtcflepnckjappaaGreatReAll7
import Derived.Defers
import Derived.Test.YtcflepnckjappaaGreatAppL
import Derived.Test.YtcflepnckjappaaGreatPageA
namespace Go.Proofs.YtcflepnckjappaaGreat
open Go.RowKit Go.Maps Go.Sort

theorem enc_map (ds : List VerD) : (dkB ds).map encStr = (dkeys ds).map Value.string := by
  unfold dkB
  rw [List.map_map]
  refine List.map_congr_left fun k _ => ?_
  simp [encStr]
/-- A slice of texts that the call owns from block B on. -/
abbrev StrOwns (w : World) (B : Nat) (v : Value) (ks : List ByteArray) : Prop := w.ownsRow B 9 1 v ks.length (ks.map Value.string)
theorem strowns_mono {w : World} {B C : Nat} {v : Value} {ks : List ByteArray} (h : StrOwns w B v ks) (hc : C ≤ B) : StrOwns w C v ks := by
  refine ⟨h.1, ?_⟩
  rcases h.2 with h | ⟨g, cap, cur, e, hb, r⟩
  · exact .inl h
  · exact .inr ⟨g, cap, cur, e, Nat.le_trans hc hb, r⟩
end Go.Proofs.YtcflepnckjappaaGreat

namespace Go.Proofs.YtcflepnckjappaaGreat
open Go.RowKit Go.Maps

/-- A slice of texts as it reads. -/
def StrRow (w : World) (a : Option Addr) (n : Nat) (ks : List ByteArray) : Prop :=
  ks.length = n ∧ ∀ i (hi : i < ks.length), ∃ b off, a = some ⟨b, off, none⟩ ∧ w.cell? ⟨b, off + i, none⟩ = some (.string ks[i])
theorem StrRow.below {w w' : World} {a : Option Addr} {n : Nat} {ks : List ByteArray} (h : StrRow w a n ks) (hb : Below w.heap.size w w') : StrRow w' a n ks := by
  refine ⟨h.1, fun i hi => ?_⟩
  obtain ⟨b, off, e, c⟩ := h.2 i hi
  exact ⟨b, off, e, (hb.cell (p := ⟨b, off + i, none⟩) (cell_lt c)).trans c⟩
theorem strrow_of_owns {w : World} {B : Nat} {v : Value} {ks : List ByteArray} (h : StrOwns w B v ks) : ∃ a c, v = .slice a ks.length c ∧ StrRow w a ks.length ks := by
  have h' := h
  rcases h.2 with ⟨rfl, h0⟩ | ⟨g, cap, cur, rfl, _⟩
  · exact ⟨none, 0, by rw [h0], rfl, fun i hi => absurd hi (by omega)⟩
  · refine ⟨_, cap, rfl, rfl, fun i hi => ⟨g, 0, rfl, ?_⟩⟩
    rw [Nat.zero_add, h'.cellAt i (by omega)]
    simp [hi]
end Go.Proofs.YtcflepnckjappaaGreat

namespace Go.Proofs.YtcflepnckjappaaGreat
open Go.RowKit Go.Maps Go.Sort

theorem hisr_perm {w : World} {m N : Nat} {f : ByteArray → Value} {ds : List VerD} (h : HisRd w m N f ds) (ok : okVs ds = true) :
    ∃ D : DataW Value, w.ownsMap Tryz.prog 9 hmElem m N D ∧ (dkB ds).Perm (strKeys D) := by
  obtain ⟨D, h1, _, h3⟩ := h.map
  refine ⟨D, h1, Collected.perm (left := fun _ => false) ⟨dkB_nodup ok, fun x => ?_⟩ h1 (string_keyed Tryz.underlying9) Tryz.underlying9 (fun _ => rfl)⟩
  have hk : ∀ k : ByteArray, f k ≠ .slice none 0 0 ↔ ∃ i, ∃ h : i < ds.length, ds[i].k = k := fun k => by
    rw [← grp_ne]
    constructor
    · intro h1 h2
      exact h1 (h.no k h2)
    · intro h1 h2
      obtain ⟨a, c, e, _⟩ := h.row k
      rw [h2] at e
      injection e with _ e _
      exact h1 (List.eq_nil_of_length_eq_zero e.symm)
  constructor
  · intro hx
    obtain ⟨i, hi, rfl⟩ := (dkB_mem x).1 hx
    refine ⟨(h3 ds[i].k ?_).2 ((hk _).2 ⟨i, hi, rfl⟩), rfl⟩
    have := verK_small (okVs_ver ok hi)
    unfold maxLen
    omega
  · rintro ⟨hx, _⟩
    have hl : x.length ≤ maxLen := by
      obtain ⟨es, rfl, hko⟩ := h1.keysOf
      rw [has_eq, List.any_eq_true] at hx
      obtain ⟨p, hp, hs⟩ := hx
      obtain ⟨v, hv⟩ := hko p hp
      obtain ⟨y, _, hy, hl⟩ := Maps.keyOf_str Tryz.underlying9 hv
      rw [hy] at hs
      have : y = x := by simpa [Lit.sameKey] using hs
      rw [← this]
      exact hl
    have e := (h3 ⟨x.toArray⟩ (by show x.toArray.size ≤ _; simpa using hl)).1 (by simpa using hx)
    obtain ⟨i, hi, e⟩ := (hk _).1 e
    exact (dkB_mem x).2 ⟨i, hi, by rw [e]⟩
set_option maxRecDepth 100000 in
set_option maxHeartbeats 4000000 in
theorem keysR_any (m N : Nat) (f : ByteArray → Value) (ds : List VerD) (w : World) (hH : HisRd w m N f ds) (ok : okVs ds = true) (hN : N ≤ 100000) :
    Calls Tryz.prog 66 #[.map (some m)] w fun e w' => ∃ v, e = .returned v ∧ StrOwns w' w.heap.size v (dkeys ds) ∧ Below w.heap.size w w' := by
  obtain ⟨D, h1, hp⟩ := hisr_perm hH ok
  have hsz := h1.size_le
  have KS := hide (fun mb W => callsIn_wide.1 (Tryz.maps_Keys_150 mb W))
  have SO := hide (callsIn_wide.1 (Tryz.slices_Sorted_keys_149_150 m N D hmElem w h1 (by unfold maxLen; omega) (by omega)))
  have FIN := hide (show ∀ (ss : List (List UInt8)), ss.Perm (strKeys D) → ss.length = (dkeys ds).length ∧ (ss.mergeSort (fun x y => decide (x ≤ y))).map encStr = (dkeys ds).map Value.string from fun ss h => by
    have h2 := h.trans hp.symm
    exact ⟨by rw [h2.length_eq]; simp [dkB], by rw [dkB_sort ok h2, enc_map]⟩)
  have bA : Below w.heap.size w (w.alloc (.cells #[.map (some m)] 134)) := (Below.refl _ _).alloc (Nat.le_refl _) _
  clear hH h1 hp
  go_enter Tryz.func66, Tryz.ntmps66
  go_wp2_with fail
  refine (unhide KS _ _).mono ?_
  rintro e w' ⟨rfl, hw⟩
  subst w'
  go_wp2_with fail
  refine (unhide SO).mono ?_
  rintro e w' ⟨v, ss, rfl, hS, hrow, hnil, hb⟩
  obtain ⟨e1, e2⟩ := unhide FIN ss hS
  rw [e1, e2] at hrow
  have hO := hide (strowns_mono hrow bA.size)
  have hB := hide (bA.trans (hb.mono bA.size))
  clear hrow hb hnil e1 e2 FIN SO KS bA
  go_wp2_with fail
  go_ret
  exact ⟨v, rfl, unhide hO, unhide hB⟩
theorem pu_wpApp {P : Program} {ops : Array Oper} {rest : List Oper} {o : Oper} {a : Act} {w : World} {Q : Exit → Act → World → Prop}
    (hg : o.guard = none) (s x : Operand) (t : TypeId) (hop : o.op = Op.call { callee := Callee.builtin Builtin.append, args := #[s, x], argTypes := #[t, t] })
    (vs vx v' : Value) (w' : World) (hs : a.eval s = vs) (hx : a.eval x = vx) (hrun : (Builtin.append_ #[t, t] o.type #[vs, vx]).run P w = .ok v' w') (h : wpList P ops Q rest (a.put o.dst v') w') :
    wpList P ops Q (o :: rest) a w :=
  wpList_plain hg fun _ hK => by
    unfold Oper.wp
    simp [execOp, hop, resolve, invoke, builtin, hs, hx, hrun, Result.andThen]
    exact hK _ _ h
/-- Some versions put behind a row of the call's own, be it nil. -/
theorem v_appN {w : World} {B : Nat} {v : Value} {ds es : List VerD} {A : Addr} {m c : Nat} (ty : TypeId) (ho : VOwns w B v ds) (hr : VRow w (some A) m es) (hm : 0 < m) (hz : ds.length + m ≤ 2000000) (hB : B ≤ w.heap.size) :
    ∃ v' w', (Builtin.append_ #[25, 25] ty #[v, .slice (some A) m c]).run Tryz.prog w = .ok v' w' ∧ VOwns w' B v' (ds ++ es) ∧ w.grownBy w' v.ownBlock := by
  obtain ⟨i0, hi0, hz0, hz1, hz2⟩ := info_parts Tryz.infoVersion
  obtain ⟨v', w', hrun, ho', hg, -, -⟩ := app_at (P := Tryz.prog) (w := w) (B := B) 25 ty 51 Tryz.underlying25 hi0 hz0 hz1 hz2 rfl (by decide) ho A m c (vcs es) (by rw [vcs_len, hr.1]) (vrow_src hr) (vcs_one _) (by unfold maxLen; omega) (by omega) hB (fun _ => hm)
  refine ⟨v', w', hrun, ?_, hg⟩
  unfold VOwns
  rw [List.length_append, vcs_append, hr.1]
  exact ho'
set_option maxRecDepth 100000 in
set_option maxHeartbeats 4000000 in
theorem listR_any (m N : Nat) (f : ByteArray → Value) (ds : List VerD) (w : World) (hH : HisRd w m N f ds) (ok : okVs ds = true) (hN : N ≤ 100000) (hds : ds.length ≤ 100000) :
    Calls Tryz.prog 144 #[.map (some m)] w fun e w' => ∃ v, e = .returned v ∧ VOwns w' w.heap.size v ds ∧ Below w.heap.size w w' := by
  have KS := hide (keysR_any m N f ds w hH ok hN)
  have HB := hide (fun (u : World) (hb : Below w.heap.size w u) => hH.below hb)
  have FL := hide (list_flat ok)
  have KM := hide (show ∀ k ∈ dkeys ds, grp ds k ≠ [] ∧ k.size ≤ maxLen from fun k hk => by
    obtain ⟨x, hx, e⟩ := dkeys_mem.1 hk
    refine ⟨fun e2 => ?_, ?_⟩
    · have := grp_mem.2 ⟨hx, e⟩
      rw [e2] at this
      exact absurd this List.not_mem_nil
    · have := verK_small (((okVs_iff ds).1 ok).1 x hx)
      rw [← e]
      unfold maxLen
      omega)
  have LE := hide (show ∀ j, (((dkeys ds).take j).flatMap (grp ds)).length ≤ ds.length ∧ ∀ h : j < (dkeys ds).length, (((dkeys ds).take j).flatMap (grp ds)).length + (grp ds (dkeys ds)[j]).length ≤ ds.length from fun j => by
    have h1 := congrArg List.length (list_flat ok)
    rw [← List.take_append_drop j (dkeys ds), List.flatMap_append, List.length_append] at h1
    refine ⟨by omega, fun h => ?_⟩
    rw [List.drop_eq_getElem_cons h, List.flatMap_cons, List.length_append] at h1
    omega)
  clear hH
  go_enter Tryz.func144, Tryz.ntmps144
  go_wp2_with fail
  refine (unhide KS).mono ?_
  rintro e w1 ⟨kv, rfl, hO, hb1⟩
  obtain ⟨ka, kc, rfl, hr⟩ := strrow_of_owns hO
  have hkl : (dkeys ds).length ≤ 100000 := by
    have := dkTo_len ds ds.length
    unfold dkeys
    omega
  have R := hide hr
  have B1 := hide hb1
  have N0 := hide (show VOwns w1 w1.heap.size (.slice none 0 0) (((dkeys ds).take 0).flatMap (grp ds)) from World.ownsRow_nil _ _ _ _)
  clear hO hr hb1 KS
  generalize dkeys ds = ks at *
  obtain ⟨n, hn⟩ : ∃ n, n = ks.length := ⟨_, rfl⟩
  have HN := hide hn
  rw [← hn] at hkl ⊢
  rw [← hn] at R
  clear hn
  go_wp2_with fail
  go_loopw [3, 9] (fun v iv wr => ∃ (j : Nat) (v0 : Value), v0 = v ∧ iv = .int .i64 (j : Int) ∧ j ≤ n ∧ Hid (VOwns wr w1.heap.size v0 ((ks.take j).flatMap (grp ds))) ∧ Hid (Below w1.heap.size w1 wr)) (fun _ iv _ => n - (intOf iv).toNat)
  case atStart => exact ⟨0, _, rfl, rfl, Nat.zero_le _, N0, hide (Below.refl _ _)⟩
  case round =>
    clear N0
    obtain ⟨j, v0, rfl, rfl, hj, hV, hB⟩ := hrel
    by_cases hlt : j < n
    case neg =>
      obtain rfl : j = n := by omega
      have RES := hide (show VOwns wr w.heap.size v0 ds by
        have h1 := unhide hV
        rw [List.take_of_length_le (by rw [unhide HN]; exact Nat.le_refl _), unhide FL] at h1
        exact gd_base h1 (unhide B1).size)
      have BE := hide ((unhide B1).trans ((unhide hB).mono (unhide B1).size))
      go_wp2_with fail
      go_ret
      exact ⟨_, rfl, unhide RES, unhide BE⟩
    have hj2 : j < ks.length := by rw [← unhide HN]; exact hlt
    have hjn : (j : Int) < (n : Int) := by omega
    obtain ⟨b, off, ea, d0⟩ := ((unhide R).below (unhide hB)).2 j hj2
    subst ea
    obtain ⟨hne, hks⟩ := unhide KM ks[j] (List.getElem_mem hj2)
    have HR := unhide HB wr ((unhide B1).trans ((unhide hB).mono (unhide B1).size))
    obtain ⟨a, c, e1, r1, -⟩ := HR.row ks[j]
    have hL0 : 0 < (grp ds ks[j]).length := by
      cases hg : grp ds ks[j] with
      | nil => exact absurd hg hne
      | cons x r => simp
    obtain ⟨b2, off2, ea2, -⟩ := r1.2 0 hL0
    subst ea2
    have LK := HR.map.lookup hks
    rw [e1] at LK
    have hle := (unhide LE j).2 hj2
    obtain ⟨v2, w2, hrun, ho2, hg2⟩ := v_appN (c := c) 25 (unhide hV) r1 hL0 (by omega) (unhide hB).size
    have V2 := hide (show VOwns w2 w1.heap.size v2 ((ks.take (j + 1)).flatMap (grp ds)) by
      rw [takeG_snoc ks j hj2, List.flatMap_append]
      simpa using ho2)
    have B2 := hide ((unhide hB).grown hg2 (unhide hB).size (fun k hk => ((unhide hV).lt k hk).1))
    clear HR r1 e1 ho2 hg2 hle hne hV
    generalize ks[j] = key at *
    generalize grp ds key = L at *
    go_wp2_with (first | (at_lookup; refine wpList_lookup_his _ rfl (.tmp 14) (.tmp 15) rfl m key _ rfl rfl LK ?_) | (at_builtin; refine pu_wpApp rfl (.tmp 13) (.tmp 16) 25 rfl _ _ v2 w2 rfl rfl hrun ?_))
    go_roundw
    case rel => exact ⟨j + 1, v2, rfl, by go_num, by omega, V2, B2⟩
    case measure => simp [intOf]; omega
end Go.Proofs.YtcflepnckjappaaGreat

namespace Go.Proofs.YtcflepnckjappaaGreat
open Go.RowKit

/-- A ledger as it reads. -/
structure LdRd (w : World) (lb m N : Nat) (h : ByteArray → Value) (f s : Sl) (hs : List SeH) (d : VsD) : Prop where
  box : w.heap[lb]? = some (.cells #[.int .i64 d.next, .map (some m), .slice f.a f.n f.c, .slice s.a s.n s.c] 223 (0, 0))
  his : HisRd w m N h d.list
  fr : FRow w f.a f.n d.fen
  cf : Cap f
  sr : SeIn w (.slice s.a s.n s.c) s.n hs
  cs : s.a = none → s.c = 0
  cw : ∀ h ∈ hs, Cap h.s0
  ss : hs.map (·.X) = d.ses
theorem LdRd.below {w w' : World} {lb m N : Nat} {h : ByteArray → Value} {f s : Sl} {hs : List SeH} {d : VsD} (q : LdRd w lb m N h f s hs d) (hb : Below w.heap.size w w') : LdRd w' lb m N h f s hs d :=
  ⟨(hb.block lb (blk_lt q.box)).trans q.box, q.his.below hb, q.fr.below hb, q.cf, q.sr.below hb, q.cs, q.cw, q.ss⟩
/-- Versions of their own, given back. -/
def VnRes (d : VsD) (w : World) (e : Ending) (w' : World) : Prop := ∃ (l f s : Sl) (hs : List SeH), e = .returned (.agg (vzC d.next l f s)) ∧ VzOwn w' w.heap.size l f s hs d ∧ Below w.heap.size w w'
set_option maxRecDepth 100000 in
set_option maxHeartbeats 8000000 in
theorem versions_any (lb m N : Nat) (h : ByteArray → Value) (f s : Sl) (hs : List SeH) (d : VsD) (w : World) (hI : LdRd w lb m N h f s hs d) (ok : okVs d.list = true) (hN : N ≤ 100000) (hln : d.list.length ≤ 100000) (hf : f.n ≤ 1000000) (hsn : s.n ≤ 1000000) (hwn : ∀ h ∈ hs, h.s0.n ≤ 1000000) :
    Calls Tryz.prog 62 #[.pointer (some ⟨lb, 0, none⟩)] w (VnRes d w) := by
  obtain ⟨W, hW⟩ : ∃ W, W = w.alloc (.cells #[.int .i64 0, .slice none 0 0, .slice none 0 0, .slice none 0 0] 29) := ⟨_, rfl⟩
  have b1 : Below w.heap.size w W := by subst hW; exact (Below.refl _ _).alloc (Nat.le_refl _) _
  have kv : W.heap[w.heap.size]? = some (.cells #[.int .i64 0, .slice none 0 0, .slice none 0 0, .slice none 0 0] 29 (0, 0)) := by subst hW; exact heap_alloc_new _ _
  have hz0 : w.heap.size < W.heap.size := blk_lt kv
  have hz1 : lb < w.heap.size := blk_lt hI.box
  have SSD := hide hI.ss
  have SL := hide (fun (u : World) (hb : Below w.heap.size w u) => listR_any m N h d.list u (hI.below hb).his ok hN hln)
  have SF := hide (fun (ob : Nat) (u : World) (hb : Below w.heap.size w u) (hc : u.cell? ⟨ob, 0, none⟩ = some (.slice f.a f.n f.c)) => concatF1 ob f.a f.n f.c d.fen u hc (hI.below hb).fr hI.cf.2 (by omega))
  have SS := hide (fun (u : World) (hb : Below w.heap.size w u) => ownSessions_any s hs u (hI.below hb).sr hI.cs hI.cw (by omega) (fun x hx => by have := hwn x hx; omega))
  have box := hI.box
  obtain ⟨fa, fn, fc⟩ := f
  obtain ⟨sa, sn, sc⟩ := s
  simp only at hW kv SF SS box ⊢
  have SK := hide (show ∀ u, Below w.heap.size w u → (u.cell? ⟨lb, 0, none⟩ = some (.int .i64 d.next) ∧ u.cell? ⟨lb, 1, none⟩ = some (.map (some m)) ∧ u.cell? ⟨lb, 2, none⟩ = some (.slice fa fn fc) ∧ u.cell? ⟨lb, 3, none⟩ = some (.slice sa sn sc)) from fun u hu => ⟨(hu.cell (p := ⟨lb, 0, none⟩) hz1).trans (heap_at box 0).1, (hu.cell (p := ⟨lb, 1, none⟩) hz1).trans (heap_at box 1).1, (hu.cell (p := ⟨lb, 2, none⟩) hz1).trans (heap_at box 2).1, (hu.cell (p := ⟨lb, 3, none⟩) hz1).trans (heap_at box 3).1⟩)
  have B0 := hide b1.drew
  have K0 := hide (show W.drew.heap[w.heap.size]? = _ from kv)
  have Z0 := hide (show W.heap.size ≤ W.drew.heap.size from Nat.le_refl _)
  clear hI b1 kv box ok hN hln hf hsn hwn
  go_enter Tryz.func62, Tryz.ntmps62
  go_upto_region 1 with fail
  rw [← hW]
  clear hW
  refine wp_region_held_drew (S := (fun u => (u.cell? ⟨lb, 0, none⟩ = some (.int .i64 d.next) ∧ u.cell? ⟨lb, 1, none⟩ = some (.map (some m)) ∧ u.cell? ⟨lb, 2, none⟩ = some (.slice fa fn fc) ∧ u.cell? ⟨lb, 3, none⟩ = some (.slice sa sn sc)))) (by kernel_rfl) (unhide SK _ (unhide B0)) (fun hHeld => ?_)
  generalize W.drew = u0 at *
  refine anyH_take 0 3 (v := ?v1) rfl rfl (by kernel_rfl) (by kernel_rfl) (by kernel_rfl) (fun _ _ _ h => h) (by rfl) ?h1 hHeld ?r1
  case h1 => (intro w hSw; (try dsimp only at hSw); go_simp; try (with_reducible rfl))
  simp only [Act.put, List.setIfInBounds_toArray, List.set_cons_zero, List.set_cons_succ]
  refine anyH_take 1 4 (v := ?v2) rfl rfl (by kernel_rfl) (by kernel_rfl) (by kernel_rfl) (fun _ _ _ h => h) (by rfl) ?h2 hHeld ?r2
  case h2 => (intro w hSw; (try dsimp only at hSw); go_simp; try (with_reducible rfl))
  simp only [Act.put, List.setIfInBounds_toArray, List.set_cons_zero, List.set_cons_succ]
  refine anyH_take 2 5 (v := ?v3) rfl rfl (by kernel_rfl) (by kernel_rfl) (by kernel_rfl) (fun _ _ _ h => h) (by rfl) ?h3 hHeld ?r3
  case h3 => (intro w hSw; (try dsimp only at hSw); go_simp; try (with_reducible rfl))
  simp only [Act.put, List.setIfInBounds_toArray, List.set_cons_zero, List.set_cons_succ]
  refine anyH_take 3 6 (v := ?v4) rfl rfl (by kernel_rfl) (by kernel_rfl) (by kernel_rfl) (fun _ _ _ h => h) (by rfl) ?h4 hHeld ?r4
  case h4 => (intro w hSw; (try dsimp only at hSw); go_simp; try (with_reducible rfl))
  simp only [Act.put, List.setIfInBounds_toArray, List.set_cons_zero, List.set_cons_succ]
  refine anyH_take 4 7 (v := ?v5) rfl rfl (by kernel_rfl) (by kernel_rfl) (by kernel_rfl) (fun _ _ _ h => h) (by rfl) ?h5 hHeld ?r5
  case h5 => (intro w hSw; (try dsimp only at hSw); go_simp; try (with_reducible rfl))
  simp only [Act.put, List.setIfInBounds_toArray, List.set_cons_zero, List.set_cons_succ]
  refine anyH_take 5 8 (v := ?v6) rfl rfl (by kernel_rfl) (by kernel_rfl) (by kernel_rfl) (fun _ _ _ h => h) (by rfl) ?h6 hHeld ?r6
  case h6 => (intro w hSw; (try dsimp only at hSw); go_simp; try (with_reducible rfl))
  simp only [Act.put, List.setIfInBounds_toArray, List.set_cons_zero, List.set_cons_succ]
  refine anyH_take 6 9 (v := ?v7) rfl rfl (by kernel_rfl) (by kernel_rfl) (by kernel_rfl) (fun _ _ _ h => h) (by rfl) ?h7 hHeld ?r7
  case h7 => (intro w hSw; (try dsimp only at hSw); go_simp; try (with_reducible rfl))
  simp only [Act.put, List.setIfInBounds_toArray, List.set_cons_zero, List.set_cons_succ]
  refine anyH_take 7 10 (v := ?v8) rfl rfl (by kernel_rfl) (by kernel_rfl) (by kernel_rfl) (fun _ _ _ h => h) (by rfl) ?h8 hHeld ?r8
  case h8 => (intro w hSw; (try dsimp only at hSw); go_simp; try (with_reducible rfl))
  simp only [Act.put, List.setIfInBounds_toArray, List.set_cons_zero, List.set_cons_succ]
  refine anyH_take 9 12 (v := ?v9) rfl rfl (by kernel_rfl) (by kernel_rfl) (by kernel_rfl) (fun _ _ _ h => h) (by rfl) ?h9 hHeld ?r9
  case h9 => (intro w hSw; (try dsimp only at hSw); go_simp; try (with_reducible rfl))
  simp only [Act.put, List.setIfInBounds_toArray, List.set_cons_zero, List.set_cons_succ]
  refine anyH_take 10 13 (v := ?v10) rfl rfl (by kernel_rfl) (by kernel_rfl) (by kernel_rfl) (fun _ _ _ h => h) (by rfl) ?h10 hHeld ?r10
  case h10 => (intro w hSw; (try dsimp only at hSw); go_simp; try (with_reducible rfl))
  simp only [Act.put, List.setIfInBounds_toArray, List.set_cons_zero, List.set_cons_succ]
  refine anyH_take 11 14 (v := ?v11) rfl rfl (by kernel_rfl) (by kernel_rfl) (by kernel_rfl) (fun _ _ _ h => h) (by rfl) ?h11 hHeld ?r11
  case h11 => (intro w hSw; (try dsimp only at hSw); go_simp; try (with_reducible rfl))
  simp only [Act.put, List.setIfInBounds_toArray, List.set_cons_zero, List.set_cons_succ]
  refine anyH_take 12 15 (v := ?v12) rfl rfl (by kernel_rfl) (by kernel_rfl) (by kernel_rfl) (fun _ _ _ h => h) (by rfl) ?h12 hHeld ?r12
  case h12 => (intro w hSw; (try dsimp only at hSw); go_simp; try (with_reducible rfl))
  simp only [Act.put, List.setIfInBounds_toArray, List.set_cons_zero, List.set_cons_succ]
  refine anyH_take 15 18 (v := ?v13) rfl rfl (by kernel_rfl) (by kernel_rfl) (by kernel_rfl) (fun _ _ _ h => h) (by rfl) ?h13 hHeld ?r13
  case h13 => (intro w hSw; (try dsimp only at hSw); go_simp; try (with_reducible rfl))
  simp only [Act.put, List.setIfInBounds_toArray, List.set_cons_zero, List.set_cons_succ]
  refine anyH_take 16 19 (v := ?v14) rfl rfl (by kernel_rfl) (by kernel_rfl) (by kernel_rfl) (fun _ _ _ h => h) (by rfl) ?h14 hHeld ?r14
  case h14 => (intro w hSw; (try dsimp only at hSw); go_simp; try (with_reducible rfl))
  simp only [Act.put, List.setIfInBounds_toArray, List.set_cons_zero, List.set_cons_succ]
  refine anyH_take 17 20 (v := ?v15) rfl rfl (by kernel_rfl) (by kernel_rfl) (by kernel_rfl) (fun _ _ _ h => h) (by rfl) ?h15 hHeld ?r15
  case h15 => (intro w hSw; (try dsimp only at hSw); go_simp; try (with_reducible rfl))
  simp only [Act.put, List.setIfInBounds_toArray, List.set_cons_zero, List.set_cons_succ]
  refine anyH_take 18 21 (v := ?v16) rfl rfl (by kernel_rfl) (by kernel_rfl) (by kernel_rfl) (fun _ _ _ h => h) (by rfl) ?h16 hHeld ?r16
  case h16 => (intro w hSw; (try dsimp only at hSw); go_simp; try (with_reducible rfl))
  simp only [Act.put, List.setIfInBounds_toArray, List.set_cons_zero, List.set_cons_succ]
  refine wpAnyH_ready (rs := [8, 13]) (by kernel_rfl) (by simp) ?_
  refine AllReadyH.cons rfl (fun K hK => ?_) (AllReadyH.cons rfl (fun K hK => ?_) AllReadyH.nil)
  · go_simp
    refine (unhide SL _ (unhide B0)).mono ?_
    rintro e u8 ⟨v4, rfl, oL, hb4⟩
    obtain ⟨⟨la4, ln4, lc4⟩, rfl, -⟩ := v_slice oL
    have OL := hide (gd_base oL (unhide Z0))
    have B8 := hide ((unhide B0).trans (hb4.mono (unhide B0).size))
    have K8 := hide ((hb4.block w.heap.size (blk_lt (unhide K0))).trans (unhide K0))
    have Z8 := hide (Nat.le_trans (unhide Z0) hb4.size)
    clear oL hb4
    refine hK.out _ _ (unhide SK _ (unhide B8)) (fun hHeld => ?_)
    clear hK K
    refine wpAnyH_ready (rs := [13]) (by kernel_rfl) (by simp) ?_
    refine AllReadyH.cons rfl (fun K hK => ?_) AllReadyH.nil
    have bA7 : Below u8.heap.size u8 (u8.alloc (.cells #[.slice fa fn fc] 26)) := (Below.refl _ _).alloc (Nat.le_refl _) _
    have C7 := hide (show (u8.alloc (.cells #[.slice fa fn fc] 26)).cell? ⟨u8.heap.size, 0, none⟩ = some (.slice fa fn fc) from (heap_at (heap_alloc_new _ _) 0).1)
    have B8_13 := hide ((unhide B8).trans (bA7.mono (unhide B8).size))
    have K8_13 := hide ((bA7.block w.heap.size (blk_lt (unhide K8))).trans (unhide K8))
    have Z8_13 := hide (Nat.le_trans (unhide Z8) bA7.size)
    have OL7 := hide (rb_ownsRow_below (unhide OL) bA7)
    go_simp
    generalize u8.alloc (.cells #[.slice fa fn fc] 26) = u8_13 at *
    generalize hq7 : u8.heap.size = o7 at *
    clear bA7
    refine hK.out _ _ (unhide SK _ (unhide B8_13)) (fun hHeld => ?_)
    clear hK K
    refine wpAnyH_ready (rs := [14]) (by kernel_rfl) (by simp) ?_
    refine AllReadyH.cons rfl (fun K hK => ?_) AllReadyH.nil
    go_simp
    refine (unhide SF _ _ (unhide B8_13) (unhide C7)).mono ?_
    rintro e u8_13_14 ⟨v8, rfl, oF, hb8⟩
    obtain ⟨⟨fa8, fn8, fc8⟩, rfl, -⟩ := v_slice oF
    have OF := hide (gd_base oF (unhide Z8_13))
    have OL8 := hide (rb_ownsRow_below (unhide OL7) hb8)
    have B8_13_14 := hide ((unhide B8_13).trans (hb8.mono (unhide B8_13).size))
    have K8_13_14 := hide ((hb8.block w.heap.size (blk_lt (unhide K8_13))).trans (unhide K8_13))
    have Z8_13_14 := hide (Nat.le_trans (unhide Z8_13) hb8.size)
    clear oF hb8
    refine hK.out _ _ (unhide SK _ (unhide B8_13_14)) (fun hHeld => ?_)
    clear hK K
    refine wpAnyH_ready (rs := [19]) (by kernel_rfl) (by simp) ?_
    refine AllReadyH.cons rfl (fun K hK => ?_) AllReadyH.nil
    go_simp
    refine (unhide SS _ (unhide B8_13_14)).mono ?_
    rintro e u8_13_14_19 ⟨⟨sa1, sn1, sc1⟩, hs1, rfl, oS, hX, hb11⟩
    have VZ := hide (show VzOwn u8_13_14_19 W.heap.size ⟨la4, ln4, lc4⟩ ⟨fa8, fn8, fc8⟩ ⟨sa1, sn1, sc1⟩ hs1 d from ⟨rb_ownsRow_below (unhide OL8) hb11, rb_ownsRow_below (unhide OF) hb11, oS.down (unhide Z8_13_14), hX.trans (unhide SSD), fun i hi hn => Nat.lt_irrefl _ (Nat.lt_of_lt_of_le ((unhide OL8).lt i hi).2 (oS.lt i hn).1)⟩)
    have B8_13_14_19 := hide ((unhide B8_13_14).trans (hb11.mono (unhide B8_13_14).size))
    have K8_13_14_19 := hide ((hb11.block w.heap.size (blk_lt (unhide K8_13_14))).trans (unhide K8_13_14))
    have Z8_13_14_19 := hide (Nat.le_trans (unhide Z8_13_14) hb11.size)
    clear oS hX hb11
    refine hK.out _ _ (unhide SK _ (unhide B8_13_14_19)) (fun hHeld => ?_)
    clear hK K
    refine anyH_take 20 23 (v := ?v17) rfl rfl (by kernel_rfl) (by kernel_rfl) (by kernel_rfl) (fun _ _ _ h => h) (by rfl) ?h17 hHeld ?r17
    case h17 => (intro w hSw; (try dsimp only at hSw); go_simp; try (with_reducible rfl))
    simp only [Act.put, List.setIfInBounds_toArray, List.set_cons_zero, List.set_cons_succ]
    refine wpAnyH_ready (rs := [21]) (by kernel_rfl) (by simp) ?_
    refine AllReadyH.cons rfl (fun K hK => ?_) AllReadyH.nil
    have RES := hide (((unhide VZ).sv (b := w.heap.size) hz0 (.int .i64 d.next) (.slice la4 ln4 lc4) (.slice fa8 fn8 fc8) (.slice sa1 sn1 sc1)).dn (Nat.le_of_lt hz0))
    have BE := hide (bel_sv4 (unhide B8_13_14_19) (Nat.le_refl _) (.int .i64 d.next) (.slice la4 ln4 lc4) (.slice fa8 fn8 fc8) (.slice sa1 sn1 sc1))
    have KE := hide (sv4_heap (unhide K8_13_14_19) (.int .i64 d.next) (.slice la4 ln4 lc4) (.slice fa8 fn8 fc8) (.slice sa1 sn1 sc1))
    have y0 := (heap_at (unhide K8_13_14_19) 0).1
    have y1 := (heap_at (unhide K8_13_14_19) 1).1
    have y2 := (heap_at (unhide K8_13_14_19) 2).1
    have y3 := (heap_at (unhide K8_13_14_19) 3).1
    simp only [List.getElem?_toArray, List.getElem?_cons_zero, List.getElem?_cons_succ] at y0 y1 y2 y3
    have f0 := (heap_at (unhide K8_13_14_19) 0).2
    have f1 := (heap_at (unhide K8_13_14_19) 1).2
    have f2 := (heap_at (unhide K8_13_14_19) 2).2
    have f3 := (heap_at (unhide K8_13_14_19) 3).2
    unfold sv4 at RES BE KE
    go_simp
    clear y0 y1 y2 y3 f0 f1 f2 f3
    refine hK.out _ _ (unhide SK _ (unhide BE)) (fun hHeld => ?_)
    clear hK K
    refine wpAnyH_done (by kernel_rfl) ?_ _
    clear hHeld SK SL SF SS
    generalize (((u8_13_14_19.setCell ⟨w.heap.size, 0, none⟩ (.int .i64 d.next)).setCell ⟨w.heap.size, 1, none⟩ (.slice la4 ln4 lc4)).setCell ⟨w.heap.size, 2, none⟩ (.slice fa8 fn8 fc8)).setCell ⟨w.heap.size, 3, none⟩ (.slice sa1 sn1 sc1) = uE at *
    have x0 := (heap_at (unhide KE) 0).1
    have x1 := (heap_at (unhide KE) 1).1
    have x2 := (heap_at (unhide KE) 2).1
    have x3 := (heap_at (unhide KE) 3).1
    simp only [List.getElem?_toArray, List.getElem?_cons_zero, List.getElem?_cons_succ] at x0 x1 x2 x3
    go_wp2_with fail
    refine bodyPost_ret (v := .agg #[.int .i64 d.next, .slice la4 ln4 lc4, .slice fa8 fn8 fc8, .slice sa1 sn1 sc1]) (by simp [results, Tryz.results62, go_sem, *]) rfl ?_
    exact ⟨⟨la4, ln4, lc4⟩, ⟨fa8, fn8, fc8⟩, ⟨sa1, sn1, sc1⟩, hs1, rfl, unhide RES, unhide BE⟩
  · have bA7 : Below u0.heap.size u0 (u0.alloc (.cells #[.slice fa fn fc] 26)) := (Below.refl _ _).alloc (Nat.le_refl _) _
    have C7 := hide (show (u0.alloc (.cells #[.slice fa fn fc] 26)).cell? ⟨u0.heap.size, 0, none⟩ = some (.slice fa fn fc) from (heap_at (heap_alloc_new _ _) 0).1)
    have B13 := hide ((unhide B0).trans (bA7.mono (unhide B0).size))
    have K13 := hide ((bA7.block w.heap.size (blk_lt (unhide K0))).trans (unhide K0))
    have Z13 := hide (Nat.le_trans (unhide Z0) bA7.size)
    go_simp
    generalize u0.alloc (.cells #[.slice fa fn fc] 26) = u13 at *
    generalize hq7 : u0.heap.size = o7 at *
    clear bA7
    refine hK.out _ _ (unhide SK _ (unhide B13)) (fun hHeld => ?_)
    clear hK K
    refine wpAnyH_ready (rs := [8]) (by kernel_rfl) (by simp) ?_
    refine AllReadyH.cons rfl (fun K hK => ?_) AllReadyH.nil
    go_simp
    refine (unhide SL _ (unhide B13)).mono ?_
    rintro e u13_8 ⟨v4, rfl, oL, hb4⟩
    obtain ⟨⟨la4, ln4, lc4⟩, rfl, -⟩ := v_slice oL
    have OL := hide (gd_base oL (unhide Z13))
    have B13_8 := hide ((unhide B13).trans (hb4.mono (unhide B13).size))
    have K13_8 := hide ((hb4.block w.heap.size (blk_lt (unhide K13))).trans (unhide K13))
    have Z13_8 := hide (Nat.le_trans (unhide Z13) hb4.size)
    have C8 := hide ((hb4.cell (p := ⟨o7, 0, none⟩) (cell_lt (unhide C7))).trans (unhide C7))
    clear oL hb4
    refine hK.out _ _ (unhide SK _ (unhide B13_8)) (fun hHeld => ?_)
    clear hK K
    refine wpAnyH_ready (rs := [14]) (by kernel_rfl) (by simp) ?_
    refine AllReadyH.cons rfl (fun K hK => ?_) AllReadyH.nil
    go_simp
    refine (unhide SF _ _ (unhide B13_8) (unhide C8)).mono ?_
    rintro e u13_8_14 ⟨v8, rfl, oF, hb8⟩
    obtain ⟨⟨fa8, fn8, fc8⟩, rfl, -⟩ := v_slice oF
    have OF := hide (gd_base oF (unhide Z13_8))
    have OL8 := hide (rb_ownsRow_below (unhide OL) hb8)
    have B13_8_14 := hide ((unhide B13_8).trans (hb8.mono (unhide B13_8).size))
    have K13_8_14 := hide ((hb8.block w.heap.size (blk_lt (unhide K13_8))).trans (unhide K13_8))
    have Z13_8_14 := hide (Nat.le_trans (unhide Z13_8) hb8.size)
    clear oF hb8
    refine hK.out _ _ (unhide SK _ (unhide B13_8_14)) (fun hHeld => ?_)
    clear hK K
    refine wpAnyH_ready (rs := [19]) (by kernel_rfl) (by simp) ?_
    refine AllReadyH.cons rfl (fun K hK => ?_) AllReadyH.nil
    go_simp
    refine (unhide SS _ (unhide B13_8_14)).mono ?_
    rintro e u13_8_14_19 ⟨⟨sa1, sn1, sc1⟩, hs1, rfl, oS, hX, hb11⟩
    have VZ := hide (show VzOwn u13_8_14_19 W.heap.size ⟨la4, ln4, lc4⟩ ⟨fa8, fn8, fc8⟩ ⟨sa1, sn1, sc1⟩ hs1 d from ⟨rb_ownsRow_below (unhide OL8) hb11, rb_ownsRow_below (unhide OF) hb11, oS.down (unhide Z13_8_14), hX.trans (unhide SSD), fun i hi hn => Nat.lt_irrefl _ (Nat.lt_of_lt_of_le ((unhide OL8).lt i hi).2 (oS.lt i hn).1)⟩)
    have B13_8_14_19 := hide ((unhide B13_8_14).trans (hb11.mono (unhide B13_8_14).size))
    have K13_8_14_19 := hide ((hb11.block w.heap.size (blk_lt (unhide K13_8_14))).trans (unhide K13_8_14))
    have Z13_8_14_19 := hide (Nat.le_trans (unhide Z13_8_14) hb11.size)
    clear oS hX hb11
    refine hK.out _ _ (unhide SK _ (unhide B13_8_14_19)) (fun hHeld => ?_)
    clear hK K
    refine anyH_take 20 23 (v := ?v18) rfl rfl (by kernel_rfl) (by kernel_rfl) (by kernel_rfl) (fun _ _ _ h => h) (by rfl) ?h18 hHeld ?r18
    case h18 => (intro w hSw; (try dsimp only at hSw); go_simp; try (with_reducible rfl))
    simp only [Act.put, List.setIfInBounds_toArray, List.set_cons_zero, List.set_cons_succ]
    refine wpAnyH_ready (rs := [21]) (by kernel_rfl) (by simp) ?_
    refine AllReadyH.cons rfl (fun K hK => ?_) AllReadyH.nil
    have RES := hide (((unhide VZ).sv (b := w.heap.size) hz0 (.int .i64 d.next) (.slice la4 ln4 lc4) (.slice fa8 fn8 fc8) (.slice sa1 sn1 sc1)).dn (Nat.le_of_lt hz0))
    have BE := hide (bel_sv4 (unhide B13_8_14_19) (Nat.le_refl _) (.int .i64 d.next) (.slice la4 ln4 lc4) (.slice fa8 fn8 fc8) (.slice sa1 sn1 sc1))
    have KE := hide (sv4_heap (unhide K13_8_14_19) (.int .i64 d.next) (.slice la4 ln4 lc4) (.slice fa8 fn8 fc8) (.slice sa1 sn1 sc1))
    have y0 := (heap_at (unhide K13_8_14_19) 0).1
    have y1 := (heap_at (unhide K13_8_14_19) 1).1
    have y2 := (heap_at (unhide K13_8_14_19) 2).1
    have y3 := (heap_at (unhide K13_8_14_19) 3).1
    simp only [List.getElem?_toArray, List.getElem?_cons_zero, List.getElem?_cons_succ] at y0 y1 y2 y3
    have f0 := (heap_at (unhide K13_8_14_19) 0).2
    have f1 := (heap_at (unhide K13_8_14_19) 1).2
    have f2 := (heap_at (unhide K13_8_14_19) 2).2
    have f3 := (heap_at (unhide K13_8_14_19) 3).2
    unfold sv4 at RES BE KE
    go_simp
    clear y0 y1 y2 y3 f0 f1 f2 f3
    refine hK.out _ _ (unhide SK _ (unhide BE)) (fun hHeld => ?_)
    clear hK K
    refine wpAnyH_done (by kernel_rfl) ?_ _
    clear hHeld SK SL SF SS
    generalize (((u13_8_14_19.setCell ⟨w.heap.size, 0, none⟩ (.int .i64 d.next)).setCell ⟨w.heap.size, 1, none⟩ (.slice la4 ln4 lc4)).setCell ⟨w.heap.size, 2, none⟩ (.slice fa8 fn8 fc8)).setCell ⟨w.heap.size, 3, none⟩ (.slice sa1 sn1 sc1) = uE at *
    have x0 := (heap_at (unhide KE) 0).1
    have x1 := (heap_at (unhide KE) 1).1
    have x2 := (heap_at (unhide KE) 2).1
    have x3 := (heap_at (unhide KE) 3).1
    simp only [List.getElem?_toArray, List.getElem?_cons_zero, List.getElem?_cons_succ] at x0 x1 x2 x3
    go_wp2_with fail
    refine bodyPost_ret (v := .agg #[.int .i64 d.next, .slice la4 ln4 lc4, .slice fa8 fn8 fc8, .slice sa1 sn1 sc1]) (by simp [results, Tryz.results62, go_sem, *]) rfl ?_
    exact ⟨⟨la4, ln4, lc4⟩, ⟨fa8, fn8, fc8⟩, ⟨sa1, sn1, sc1⟩, hs1, rfl, unhide RES, unhide BE⟩
end Go.Proofs.YtcflepnckjappaaGreat

namespace Go.Proofs.YtcflepnckjappaaGreat
open Go.RowKit Go.Maps

end Go.Proofs.YtcflepnckjappaaGreat

namespace Go.Proofs.YtcflepnckjappaaGreat
open Go.RowKit Go.Maps

theorem grp_cons (e : VerD) (r : List VerD) (k : ByteArray) : grp (e :: r) k = if e.k = k then e :: grp r k else grp r k := by
  unfold grp
  by_cases h : e.k = k
  · rw [if_pos h, List.filter_cons_of_pos (by simpa using h)]
  · rw [if_neg h, List.filter_cons_of_neg (by simpa using h)]
theorem sameV_k {a b : VerD} (h : sameV a b = true) : a.k = b.k := by
  unfold sameV at h
  simp only [Bool.and_eq_true, decide_eq_true_eq] at h
  exact h.1
theorem grp_ins_other (x : VerD) {k : ByteArray} (hk : k ≠ x.k) : ∀ ds : List VerD, grp (insV ds x) k = grp ds k
  | [] => by
    show grp [x] k = grp [] k
    rw [grp_cons, if_neg (fun e => hk e.symm)]
  | e :: r => by
    rw [insV_cons]
    split
    · rw [grp_cons, grp_cons, grp_ins_other x hk r]
    · split
      · rename_i hs
        rw [grp_cons, grp_cons, if_neg (fun e => hk e.symm), if_neg (fun e2 => hk (e2.symm.trans (sameV_k hs)))]
      · rw [grp_cons, if_neg (fun e => hk e.symm)]
theorem grp_ins_same (x : VerD) : ∀ ds : List VerD, (ds.Pairwise fun a b => ltV a b = true) → grp (insV ds x) x.k = insV (grp ds x.k) x
  | [], _ => by
    show grp [x] x.k = insV [] x
    rw [grp_cons, if_pos rfl]
    rfl
  | e :: r, h => by
    obtain ⟨h1, h2⟩ := List.pairwise_cons.1 h
    have ih := grp_ins_same x r h2
    rw [insV_cons, grp_cons e r]
    by_cases he : e.k = x.k
    · rw [if_pos he, insV_cons]
      split
      · rw [grp_cons, if_pos he, ih]
      · split
        · rw [grp_cons, if_pos rfl]
        · rw [grp_cons, if_pos rfl, grp_cons, if_pos he]
    · rw [if_neg he]
      by_cases hl : ltV e x = true
      · rw [if_pos hl, grp_cons, if_neg he, ih]
      · rw [if_neg hl]
        have hs : ¬ sameV e x = true := fun hs => he (sameV_k hs)
        rw [if_neg hs, grp_cons, if_pos rfl, grp_cons, if_neg he]
        have h0 : grp r x.k = [] := by
          cases hg : grp r x.k with
          | nil => rfl
          | cons y s =>
            exfalso
            have hy : y ∈ grp r x.k := by rw [hg]; exact List.mem_cons_self ..
            obtain ⟨hy1, hy2⟩ := grp_mem.1 hy
            have hlt := h1 y hy1
            unfold ltV at hlt hl
            rw [hy2] at hlt
            simp only [Bool.or_eq_true, Bool.and_eq_true, decide_eq_true_eq] at hlt hl
            rcases hlt with h3 | h3
            · exact hl (.inl h3)
            · exact he h3.1
        rw [h0]
        rfl
/-- A version put among those of its key. -/
theorem HisAt.ins {w w1 : World} {m N B : Nat} {f : ByteArray → Value} {ds : List VerD} (h : HisAt w m N B f ds) (ok : ds.Pairwise fun a b => ltV a b = true) (x : VerD) (hk : x.k.size ≤ maxLen) (hN : N < maxLen) {v' : Value} (o1 : VOwns w1 B v' (insV (grp ds x.k) x)) (hv : v' ≠ .slice none 0 0)
    (gr1 : w.grownBy w1 (f x.k).ownBlock) (loc : LocV w v' (f x.k).ownBlock) :
    ∃ w2, (Instr.mapUpdate 134 (.map (some m)) (.string x.k) v').run Tryz.prog w1 = .ok () w2 ∧ HisAt w2 m (N + 1) B (fun y => if y = x.k then v' else f y) (insV ds x) ∧ WrB (fun i => i = m ∨ (f x.k).ownBlock = some i) w w2 := by
  have hmw := h.map.lt
  have hmb := h.mb
  have hB : ∀ k g, (f k).ownBlock = some g → B ≤ g ∧ g < w.heap.size := fun k g e => (h.own k).lt g e
  have hA : ∀ i, i < w.heap.size → (f x.k).ownBlock ≠ some i → w1.heap[i]? = w.heap[i]? := fun i hi hne => gr1.block i hi (fun e => hne e.symm)
  have hM1 : HMap w1 m N f := h.map.block (hA m hmw (fun e => by have := (hB _ _ e).1; omega))
  obtain ⟨w2, hr2, hm2, gr2⟩ := hM1.update hk hN v' hv
  have hs1 : w.heap.size ≤ w1.heap.size := gr1.size
  have hA2 : ∀ i, i < w.heap.size → i ≠ m → (f x.k).ownBlock ≠ some i → w2.heap[i]? = w.heap[i]? := fun i hi hm' hne => (gr2.block i (Nat.lt_of_lt_of_le hi hs1) (fun e => hm' (by injection e))).trans (hA i hi hne)
  have wb : WrB (fun i => i = m ∨ (f x.k).ownBlock = some i) w w2 := ⟨gr2.os.trans gr1.os, gr2.tape.trans gr1.tape, gr2.output.trans gr1.output, Nat.le_trans hs1 gr2.size, fun i hi hp => hA2 i hi (fun e => hp (.inl e)) (fun e => hp (.inr e))⟩
  have lc : ∀ k, k ≠ x.k → ∀ g, (f k).ownBlock = some g → v'.ownBlock ≠ some g := fun k hkx g hg hv2 => by
    rcases loc with l1 | ⟨b, hb, l1⟩
    · exact h.far k x.k hkx g hg (l1.symm.trans hv2)
    · have h1 := (hB k g hg).2
      rw [l1] at hv2
      injection hv2 with hv2
      omega
  refine ⟨w2, hr2, ⟨hm2, fun k => ?_, fun k j hkj g hg hj => ?_, hmb, fun k hk0 => ?_⟩, wb⟩
  · show VOwns w2 B (if k = x.k then v' else f k) (grp (insV ds x) k)
    by_cases e : k = x.k
    · subst e
      rw [if_pos rfl, grp_ins_same x ds ok]
      exact World.ownsRow.kept o1 gr2 (by
        cases hu : v'.ownBlock with
        | none => exact .inl rfl
        | some g => exact .inr fun e => by have h1 := (o1.lt g hu).1; injection e with e; omega)
    · rw [if_neg e, grp_ins_other x e]
      exact rr_owns_wr (h.own k) wb (fun i hi hp => by
        rcases hp with hp | hp
        · have := (hB k i hi).1; omega
        · exact h.far k x.k e i hi hp)
  · revert hg hj
    show (if k = x.k then v' else f k).ownBlock = some g → (if j = x.k then v' else f j).ownBlock = some g → False
    intro hg hj
    by_cases e : k = x.k
    · have e2 : ¬ j = x.k := fun e2 => hkj (e.trans e2.symm)
      rw [if_pos e] at hg
      rw [if_neg e2] at hj
      exact lc j e2 g hj hg
    · rw [if_neg e] at hg
      by_cases e2 : j = x.k
      · rw [if_pos e2] at hj
        exact lc k e g hg hj
      · rw [if_neg e2] at hj
        exact h.far k j hkj g hg hj
  · show (if k = x.k then v' else f k) = _
    by_cases e : k = x.k
    · subst e
      rw [grp_ins_same x ds ok] at hk0
      unfold insV at hk0
      simp at hk0
    · rw [if_neg e]
      rw [grp_ins_other x e] at hk0
      exact h.no k hk0
/-- A ledger whose history has one version more. -/
theorem LgAt.ins {w w1 : World} {B lb m N : Nat} {h : ByteArray → Value} {f s : Sl} {hs : List SeH} {d : VsD} (q : LgAt w B lb m N h f s hs d) (ok : okVs d.list = true) (x : VerD) (hk : x.k.size ≤ maxLen) (hN : N < maxLen) {v' : Value} (o1 : VOwns w1 (m + 1) v' (insV (grp d.list x.k) x)) (hv : v' ≠ .slice none 0 0)
    (gr1 : w.grownBy w1 (h x.k).ownBlock) (loc : LocV w v' (h x.k).ownBlock) :
    ∃ w2, (Instr.mapUpdate 134 (.map (some m)) (.string x.k) v').run Tryz.prog w1 = .ok () w2 ∧ LgAt w2 B lb m (N + 1) (fun y => if y = x.k then v' else h y) f s hs ⟨d.next, insV d.list x, d.fen, d.ses⟩ ∧ WrB (fun i => i = m ∨ (h x.k).ownBlock = some i) w w2 ∧ LgW B m w w2 := by
  obtain ⟨w2, hr, hh, wb⟩ := q.his.ins (okVs_pair ok) x hk hN o1 hv gr1 loc
  have kd : ∀ i, (h x.k).ownBlock = some i → ∃ cur, w.heap[i]? = some (.cells cur 51 (0, 0)) := fun i e => own_kind (q.his.own x.k) e
  have mm : ∃ es c, w.heap[m]? = some (.map es c) := by
    obtain ⟨D, ⟨es, clock, h1, _⟩, _⟩ := q.his.map
    exact ⟨es, clock, h1⟩
  have mne : ∀ i cs t, w.heap[i]? = some (.cells cs t (0, 0)) → i ≠ m := fun i cs t hi e => by
    obtain ⟨es, c, h1⟩ := mm
    rw [e, h1] at hi
    cases hi
  refine ⟨w2, hr, ⟨?_, hh, q.vz.apart wb (fun i hi => by cases hi) (fun i hi hp => ?_) (fun i hi hp => ?_), fun k g hg hn => ?_, q.mge, q.lge⟩, wb, LgW.of_wr wb (fun i hp => ?_)⟩
  · refine (wb.block lb (blk_lt q.box) (fun hp => ?_)).trans q.box
    rcases hp with hp | hp
    · exact mne lb _ _ q.box hp
    · exact own_box (q.his.own x.k) q.box (by decide) hp
  · rcases hp with hp | hp
    · obtain ⟨cur, hc⟩ := own_kind q.vz.fo hi
      exact mne i _ _ hc hp
    · exact own_other q.vz.fo (q.his.own x.k) (by decide) hi hp
  · rcases hp with hp | hp
    · obtain ⟨cur, T, hc, _⟩ := nbl_se q.vz.so hi
      exact mne i _ _ hc hp
    · exact q.far x.k i hp hi
  · revert hg
    show (if k = x.k then v' else h k).ownBlock = some g → False
    intro hg
    by_cases e : k = x.k
    · rw [if_pos e] at hg
      rcases loc with l1 | ⟨b, hb, l1⟩
      · exact q.far x.k g (l1.symm.trans hg) hn
      · rw [l1] at hg
        injection hg with hg
        have := (q.vz.so.lt g hn).2
        omega
    · rw [if_neg e] at hg
      exact q.far k g hg hn
  · rcases hp with hp | hp
    · obtain ⟨es, c, h1⟩ := mm
      rw [hp]
      exact ⟨q.mge, .inl ⟨rfl, es, c, h1⟩⟩
    · obtain ⟨cur, hc⟩ := kd i hp
      have := ((q.his.own x.k).lt i hp).1
      have := q.mge
      exact ⟨by omega, lk_kind hc (by simp)⟩
set_option maxRecDepth 100000 in
set_option maxHeartbeats 8000000 in
theorem accept_any (lb B m N C : Nat) (h : ByteArray → Value) (f s : Sl) (hs : List SeH) (d : VsD) (a : Option Addr) (n c : Nat) (ws : List VerD) (w : World) (q : LgAt w B lb m N h f s hs d) (ok : okVs d.list = true) (hws : ∀ x ∈ ws, verK x = true) (ho : VOwns w C (.slice a n c) ws) (hfar : ∀ k g, (h k).ownBlock = some g → (Value.slice a n c).ownBlock ≠ some g) (hN : N + n ≤ 100000) (hl : d.list.length + n ≤ 1000) :
    Calls Tryz.prog 139 #[.pointer (some ⟨lb, 0, none⟩), .slice a n c] w fun e w' => e = .returned (.tuple #[]) ∧ (∃ N' h', N' ≤ N + n ∧ LgAt w' B lb m N' h' f s hs ⟨d.next, ws.foldl insV d.list, d.fen, d.ses⟩) ∧ LgW B m w w' := by
  have HN := hide (show ws.length = n from (owns_n ho).symm)
  have ST := hide (show LgAt w B lb m N h f s hs ⟨d.next, (ws.take 0).foldl insV d.list, d.fen, d.ses⟩ ∧ VOwns w C (.slice a n c) ws ∧ (∀ k g, (h k).ownBlock = some g → (Value.slice a n c).ownBlock ≠ some g) ∧ LgW B m w w from ⟨q, ho, hfar, LgW.refl _ _⟩)
  have OKS := hide (fun j => okVs_fold (ws.take j) d.list ok (fun x hx => hws x (List.mem_of_mem_take hx)))
  have LEN := hide (fun j => fold_len (ws.take j) d.list)
  have HWS := hide hws
  clear q ok hws ho hfar
  go_enter Tryz.func139, Tryz.ntmps139
  go_wp2_with fail
  go_loopw [8] (fun iv wr => ∃ (j N' : Nat) (h' : ByteArray → Value), iv = .int .i64 (j : Int) ∧ j ≤ n ∧ N' ≤ N + j ∧ Hid (LgAt wr B lb m N' h' f s hs ⟨d.next, (ws.take j).foldl insV d.list, d.fen, d.ses⟩ ∧ VOwns wr C (.slice a n c) ws ∧ (∀ k g, (h' k).ownBlock = some g → (Value.slice a n c).ownBlock ≠ some g) ∧ LgW B m w wr)) (fun iv _ => n - (intOf iv).toNat)
  case atStart => exact ⟨0, N, h, rfl, Nat.zero_le _, Nat.le_refl _, ST⟩
  case round =>
    clear ST
    obtain ⟨j, N', h', rfl, hj, hN', hS⟩ := hrel
    by_cases hlt : j < n
    case neg =>
      obtain rfl : j = n := by omega
      have RES := hide (show ∃ N' h', N' ≤ N + j ∧ LgAt wr B lb m N' h' f s hs ⟨d.next, ws.foldl insV d.list, d.fen, d.ses⟩ from ⟨N', h', hN', by
        have h1 := (unhide hS).1
        rw [List.take_of_length_le (by rw [unhide HN]; exact Nat.le_refl _)] at h1
        exact h1⟩)
      have LW := hide (unhide hS).2.2.2
      clear hS
      go_wp2_with fail
      go_end0
      exact ⟨rfl, unhide RES, unhide LW⟩
    have hj2 : j < ws.length := by rw [unhide HN]; exact hlt
    have hjn : (j : Int) < (n : Int) := by omega
    obtain ⟨q, ho, hfar, lw⟩ := unhide hS
    obtain ⟨b, off, ea, d0, d1, d2, d3⟩ := (vrow_of_owns ho).2 j hj2
    subst ea
    have vk := unhide HWS ws[j] (List.getElem_mem hj2)
    have hks : ws[j].k.size ≤ maxLen := by have := verK_small vk; unfold maxLen; omega
    -- the box of the write
    obtain ⟨U, hU⟩ : ∃ U, U = wr.alloc (.cells #[.string ws[j].k, .int .i64 ws[j].t, .string ws[j].v, .bool ws[j].g] 51) := ⟨_, rfl⟩
    have bU : Below wr.heap.size wr U := by rw [hU]; exact (Below.refl _ _).alloc (Nat.le_refl _) _
    have kU : U.heap[wr.heap.size]? = some (.cells #[.string ws[j].k, .int .i64 ws[j].t, .string ws[j].v, .bool ws[j].g] 51 (0, 0)) := by rw [hU]; exact heap_alloc_new _ _
    have bD := bU.trans ((Below.refl wr.heap.size U).drew)
    have qD := q.below bD
    have oD := rb_ownsRow_below ho bD
    have LKP := qD.his.map.lookup hks
    obtain ⟨ra, rc, ev⟩ := vowns_slice2 (qD.his.own ws[j].k)
    have hro := qD.his.own ws[j].k
    rw [ev] at LKP hro
    have hmz : m + 1 ≤ U.drew.heap.size := qD.his.map.lt
    have hgl := grp_len ((ws.take j).foldl insV d.list) ws[j].k
    have hll := unhide LEN j
    rw [List.length_take] at hll
    have CP := hide (placedT_any (m + 1) ra (grp ((ws.take j).foldl insV d.list) ws[j].k).length rc (grp ((ws.take j).foldl insV d.list) ws[j].k) ws[j] U.drew hro ((okVs_pair (unhide OKS j)).sublist (grp_sub _ _)) (fun y hy => (grp_mem.1 hy).2) (by omega) hmz)
    have FS := hide (show (ws.take (j + 1)).foldl insV d.list = insV ((ws.take j).foldl insV d.list) ws[j] by rw [takeG_snoc ws j hj2, List.foldl_append]; rfl)
    have INS := hide (fun (v' : Value) (w1 : World) (o1 : VOwns w1 (m + 1) v' (insV (grp ((ws.take j).foldl insV d.list) ws[j].k) ws[j])) (hv : v' ≠ .slice none 0 0) (g1 : U.drew.grownBy w1 (h' ws[j].k).ownBlock) (loc : LocV U.drew v' (h' ws[j].k).ownBlock) => qD.ins (unhide OKS j) ws[j] hks (by unfold maxLen; omega) o1 hv g1 loc)
    rw [ev] at INS
    have l1 := (heap_at qD.box 1).1
    simp only [List.getElem?_toArray, List.getElem?_cons_zero, List.getElem?_cons_succ] at l1
    have k0 := (heap_at kU 0).1
    have k1 := (heap_at kU 1).1
    have k2 := (heap_at kU 2).1
    have k3 := (heap_at kU 3).1
    have QD := hide qD
    have OD := hide oD
    have HF := hide hfar
    have LWD := hide (lw.trans (LgW.of_below bD))
    have EV := hide ev
    have KU := hide (show U.drew.heap[wr.heap.size]? = _ from kU)
    have ROB := hide (show ∀ g, (Value.slice ra (grp ((ws.take j).foldl insV d.list) ws[j].k).length rc).ownBlock = some g → g < wr.heap.size from fun g hg => by rw [← ev] at hg; exact ((q.his.own ws[j].k).lt g hg).2)
    have ROK := hide (show ∀ g, (Value.slice ra (grp ((ws.take j).foldl insV d.list) ws[j].k).length rc).ownBlock = some g → ∃ cur, U.drew.heap[g]? = some (.cells cur 51 (0, 0)) from fun g hg => own_kind hro hg)
    have LBX := hide qD.box
    clear hS q ho hfar lw bU kU bD qD oD hro ev vk hgl hll hmz
    generalize grp ((ws.take j).foldl insV d.list) ws[j].k = L at *
    generalize hxx : ws[j] = x at *
    clear hxx
    obtain ⟨xk, xt, xv, xg⟩ := x
    unfold vv at CP
    simp only at *
    have SK := hide (show ∀ u : World, u.heap[lb]? = U.drew.heap[lb]? → u.heap[wr.heap.size]? = U.drew.heap[wr.heap.size]? → (fun u : World => u.cell? ⟨lb, 1, none⟩ = some (.map (some m)) ∧ u.cell? ⟨wr.heap.size, 0, none⟩ = some (.string xk) ∧ u.cell? ⟨wr.heap.size, 1, none⟩ = some (.int .i64 xt) ∧ u.cell? ⟨wr.heap.size, 2, none⟩ = some (.string xv) ∧ u.cell? ⟨wr.heap.size, 3, none⟩ = some (.bool xg)) u from fun u h1 h2 => ⟨(World.cell?_of_block (a := ⟨lb, 1, none⟩) h1).trans l1, (World.cell?_of_block (a := ⟨wr.heap.size, 0, none⟩) h2).trans k0, (World.cell?_of_block (a := ⟨wr.heap.size, 1, none⟩) h2).trans k1, (World.cell?_of_block (a := ⟨wr.heap.size, 2, none⟩) h2).trans k2, (World.cell?_of_block (a := ⟨wr.heap.size, 3, none⟩) h2).trans k3⟩)
    clear l1 k0 k1 k2 k3
    go_upto_region 3 with fail
    rw [← hU]
    clear hU d0 d1 d2 d3
    generalize hbx : wr.heap.size = bx at *
    refine wp_region_held_drew (S := (fun u : World => u.cell? ⟨lb, 1, none⟩ = some (.map (some m)) ∧ u.cell? ⟨bx, 0, none⟩ = some (.string xk) ∧ u.cell? ⟨bx, 1, none⟩ = some (.int .i64 xt) ∧ u.cell? ⟨bx, 2, none⟩ = some (.string xv) ∧ u.cell? ⟨bx, 3, none⟩ = some (.bool xg))) (by kernel_rfl) (unhide SK _ rfl rfl) (fun hHeld => ?_)
    refine anyH_take 0 12 (v := ?v1) rfl rfl (by kernel_rfl) (by kernel_rfl) (by kernel_rfl) (fun _ _ _ h => h) (by rfl) ?h1 hHeld ?r1
    case h1 => (intro w hSw; (try dsimp only at hSw); go_simp; try (with_reducible rfl))
    simp only [Act.put, List.setIfInBounds_toArray, List.set_cons_zero, List.set_cons_succ]
    refine anyH_take 1 13 (v := ?v2) rfl rfl (by kernel_rfl) (by kernel_rfl) (by kernel_rfl) (fun _ _ _ h => h) (by rfl) ?h2 hHeld ?r2
    case h2 => (intro w hSw; (try dsimp only at hSw); go_simp; try (with_reducible rfl))
    simp only [Act.put, List.setIfInBounds_toArray, List.set_cons_zero, List.set_cons_succ]
    refine anyH_take 2 14 (v := ?v3) rfl rfl (by kernel_rfl) (by kernel_rfl) (by kernel_rfl) (fun _ _ _ h => h) (by rfl) ?h3 hHeld ?r3
    case h3 => (intro w hSw; (try dsimp only at hSw); go_simp; try (with_reducible rfl))
    simp only [Act.put, List.setIfInBounds_toArray, List.set_cons_zero, List.set_cons_succ]
    refine anyH_take 3 15 (v := ?v4) rfl rfl (by kernel_rfl) (by kernel_rfl) (by kernel_rfl) (fun _ _ _ h => h) (by rfl) ?h4 hHeld ?r4
    case h4 => (intro w hSw; (try dsimp only at hSw); go_simp; try (with_reducible rfl))
    simp only [Act.put, List.setIfInBounds_toArray, List.set_cons_zero, List.set_cons_succ]
    refine anyH_take 4 16 (v := ?v5) rfl rfl (by kernel_rfl) (by kernel_rfl) (by kernel_rfl) (fun _ _ _ h => h) (by rfl) ?h5 hHeld ?r5
    case h5 => (intro w hSw; (try dsimp only at hSw); go_simp; try (with_reducible rfl))
    simp only [Act.put, List.setIfInBounds_toArray, List.set_cons_zero, List.set_cons_succ]
    refine anyH_take 5 17 (v := ?v6) rfl rfl (by kernel_rfl) (by kernel_rfl) (by kernel_rfl) (fun _ _ _ h => h) (by rfl) ?h6 hHeld ?r6
    case h6 => (intro w hSw; (try dsimp only at hSw); go_simp; try (with_reducible rfl))
    simp only [Act.put, List.setIfInBounds_toArray, List.set_cons_zero, List.set_cons_succ]
    refine anyH_take 6 18 (v := ?v7) rfl rfl (by kernel_rfl) (by kernel_rfl) (by kernel_rfl) (fun _ _ _ h => h) (by rfl) ?h7 hHeld ?r7
    case h7 => (intro w hSw; (try dsimp only at hSw); go_simp; try (with_reducible rfl))
    simp only [Act.put, List.setIfInBounds_toArray, List.set_cons_zero, List.set_cons_succ]
    refine anyH_take 7 19 (v := ?v8) rfl rfl (by kernel_rfl) (by kernel_rfl) (by kernel_rfl) (fun _ _ _ h => h) (by rfl) ?h8 hHeld ?r8
    case h8 => (intro w hSw; (try dsimp only at hSw); go_simp; try (with_reducible rfl))
    simp only [Act.put, List.setIfInBounds_toArray, List.set_cons_zero, List.set_cons_succ]
    refine anyH_take 8 20 (v := ?v9) rfl rfl (by kernel_rfl) (by kernel_rfl) (by kernel_rfl) (fun _ _ _ h => h) (by rfl) ?h9 hHeld ?r9
    case h9 => (intro w hSw; (try dsimp only at hSw); go_simp; try (with_reducible rfl))
    simp only [Act.put, List.setIfInBounds_toArray, List.set_cons_zero, List.set_cons_succ]
    refine anyH_take 9 21 (v := ?v10) rfl rfl (by kernel_rfl) (by kernel_rfl) (by kernel_rfl) (fun _ _ _ h => h) (by rfl) ?h10 hHeld ?r10
    case h10 => (intro w hSw; (try dsimp only at hSw); go_simp; try (with_reducible rfl))
    simp only [Act.put, List.setIfInBounds_toArray, List.set_cons_zero, List.set_cons_succ]
    refine anyH_take 10 22 (v := ?v11) rfl rfl (by kernel_rfl) (by kernel_rfl) (by kernel_rfl) (fun _ _ _ h => h) (by rfl) ?h11 hHeld ?r11
    case h11 => (intro w hSw; (try dsimp only at hSw); go_simp; try (with_reducible rfl))
    simp only [Act.put, List.setIfInBounds_toArray, List.set_cons_zero, List.set_cons_succ]
    refine anyH_take 11 23 (v := ?v12) rfl rfl (by kernel_rfl) (by kernel_rfl) (by kernel_rfl) (fun _ _ _ h => h) (by rfl) ?h12 hHeld ?r12
    case h12 => (intro w hSw; (try dsimp only at hSw); go_simp; try (with_reducible rfl))
    simp only [Act.put, List.setIfInBounds_toArray, List.set_cons_zero, List.set_cons_succ]
    refine anyH_take 13 25 (v := ?v13) rfl rfl (by kernel_rfl) (by kernel_rfl) (by kernel_rfl) (fun _ _ _ h => h) (by rfl) ?h13 hHeld ?r13
    case h13 => (intro w hSw; (try dsimp only at hSw); go_simp; try (with_reducible rfl))
    simp only [Act.put, List.setIfInBounds_toArray, List.set_cons_zero, List.set_cons_succ]
    refine wpAnyH_ready (rs := [12]) (by kernel_rfl) (by simp) ?_
    refine AllReadyH.cons rfl (fun K hK => ?_) AllReadyH.nil
    refine hm_stepLook rfl (.tmp 21) (.tmp 23) 134 rfl _ _ _ (by first | rfl | (simp [Act.eval]; done) | (simp [Act.eval, Act.put]; done)) (by first | rfl | (simp [Act.eval]; done) | (simp [Act.eval, Act.put]; done)) LKP ?_
    refine hK.out _ _ (unhide SK _ rfl rfl) (fun hHeld => ?_)
    clear hK K
    simp only [Act.put, List.setIfInBounds_toArray]
    refine wpAnyH_ready (rs := [14]) (by kernel_rfl) (by simp) ?_
    refine AllReadyH.cons rfl (fun K hK => ?_) AllReadyH.nil
    go_simp
    refine (unhide CP).mono ?_
    rintro e w3 ⟨v3, rfl, o3, n3, g3, loc3⟩
    have hlb3 : w3.heap[lb]? = U.drew.heap[lb]? := g3.block lb (blk_lt (unhide LBX)) (fun e => by obtain ⟨cur, hc⟩ := unhide ROK lb e.symm; rw [unhide LBX] at hc; injection hc with hc; injection hc with _ hc _; exact absurd hc (by decide))
    have hbx3 : w3.heap[bx]? = U.drew.heap[bx]? := g3.block bx (blk_lt (unhide KU)) (fun e => by have := unhide ROB bx e.symm; omega)
    obtain ⟨w4, hr4, q4, wb4, lw4⟩ := unhide INS v3 w3 o3 n3 g3 loc3
    have hlb4 : w4.heap[lb]? = U.drew.heap[lb]? := q4.box.trans (unhide LBX).symm
    have mne : bx ≠ m := fun e => by have hk := unhide KU; rw [e] at hk; exact (unhide QD).his.map.ne hk rfl
    have hbx4 : w4.heap[bx]? = U.drew.heap[bx]? := wb4.block bx (blk_lt (unhide KU)) (fun e => by rcases e with e | e; exact mne e; have := unhide ROB bx e; omega)
    have LOC := hide loc3
    clear o3 n3 g3 loc3 CP INS
    refine hK.out _ _ (unhide SK _ hlb3 hbx3) (fun hHeld => ?_)
    clear hK K
    refine wpAnyH_ready (rs := [15]) (by kernel_rfl) (by simp) ?_
    refine AllReadyH.cons rfl (fun K hK => ?_) AllReadyH.nil
    refine hm_stepUpd rfl (.tmp 15) (.tmp 17) (.tmp 26) 134 rfl _ _ _ w4 (by first | rfl | (simp [Act.eval]; done) | (simp [Act.eval, Act.put]; done)) (by first | rfl | (simp [Act.eval]; done) | (simp [Act.eval, Act.put]; done)) (by first | rfl | (simp [Act.eval]; done) | (simp [Act.eval, Act.put]; done)) hr4 ?_
    refine hK.out _ _ (unhide SK _ hlb4 hbx4) (fun hHeld => ?_)
    clear hK K
    refine wpAnyH_done (by kernel_rfl) ?_ _
    clear hHeld SK
    have Z := hide (show LgAt w4 B lb m (N' + 1) (fun y => if y = xk then v3 else h' y) f s hs ⟨d.next, (ws.take (j + 1)).foldl insV d.list, d.fen, d.ses⟩ ∧ VOwns w4 C (.slice (some ⟨b, off, none⟩) n c) ws ∧ (∀ k g, ((fun y => if y = xk then v3 else h' y) k).ownBlock = some g → (Value.slice (some ⟨b, off, none⟩) n c).ownBlock ≠ some g) ∧ LgW B m w w4 from ⟨by rw [unhide FS]; exact q4, rr_owns_wr (unhide OD) wb4 (fun i hi hp => by
        rcases hp with hp | hp
        · obtain ⟨cur, hc⟩ := own_kind (unhide OD) hi
          exact (unhide QD).his.map.ne hc hp.symm
        · exact unhide HF xk i (by rw [unhide EV]; exact hp) hi), fun k g hg hb => by
        simp only at hg
        by_cases e : k = xk
        · rw [if_pos e] at hg
          rcases unhide LOC with l1 | ⟨b1, hb1, l1⟩
          · exact unhide HF xk g (by rw [unhide EV, ← l1]; exact hg) hb
          · rw [l1] at hg
            injection hg with hg
            have := ((unhide OD).lt g hb).2
            omega
        · rw [if_neg e] at hg
          exact unhide HF k g hg hb, (unhide LWD).trans lw4⟩)
    clear q4 wb4 lw4 hlb3 hbx3 hlb4 hbx4 mne OD QD HF LWD LOC
    go_wp2_with fail
    go_roundw
    case rel => exact ⟨j + 1, N' + 1, _, by go_num, by omega, by omega, Z⟩
    case measure => simp [intOf]; omega
end Go.Proofs.YtcflepnckjappaaGreat

namespace Go.Proofs.YtcflepnckjappaaGreat
open Go.RowKit Go.Lib Go.Sort Go.Shelf

end Go.Proofs.YtcflepnckjappaaGreat

namespace Go.Proofs.YtcflepnckjappaaGreat
open Go.RowKit

end Go.Proofs.YtcflepnckjappaaGreat

namespace Go.Proofs.YtcflepnckjappaaGreat
open Go.RowKit

end Go.Proofs.YtcflepnckjappaaGreat

namespace Go.Proofs.YtcflepnckjappaaGreat
open Go.RowKit

end Go.Proofs.YtcflepnckjappaaGreat

namespace Go.Proofs.YtcflepnckjappaaGreat
open Go.RowKit Go.Maps

end Go.Proofs.YtcflepnckjappaaGreat

namespace Go.Proofs.YtcflepnckjappaaGreat
open Go.RowKit Go.Maps

/-- A view as it lies in memory. -/
structure ViewAt (w : World) (p1 p2 hb tb g i m : Nat) (t : Int) : Prop where
  b1 : w.heap[p1]? = some (.cells #[.pointer (some ⟨g, i * 3, none⟩)] 289 (0, 0))
  b2 : w.heap[p2]? = some (.cells #[.func (.func 151) #[] #[.pointer (some ⟨hb, 0, none⟩), .pointer (some ⟨tb, 0, none⟩)]] 140 (0, 0))
  b3 : w.heap[hb]? = some (.cells #[.map (some m)] 134 (0, 0))
  b4 : w.heap[tb]? = some (.cells #[.int .i64 t] 3 (0, 0))
theorem ViewAt.below {w w' : World} {p1 p2 hb tb g i m : Nat} {t : Int} (h : ViewAt w p1 p2 hb tb g i m t) (b : Below w.heap.size w w') : ViewAt w' p1 p2 hb tb g i m t :=
  ⟨(b.block _ (blk_lt h.b1)).trans h.b1, (b.block _ (blk_lt h.b2)).trans h.b2, (b.block _ (blk_lt h.b3)).trans h.b3, (b.block _ (blk_lt h.b4)).trans h.b4⟩
end Go.Proofs.YtcflepnckjappaaGreat

namespace Go.Proofs.YtcflepnckjappaaGreat
open Go.RowKit

end Go.Proofs.YtcflepnckjappaaGreat

namespace Go.Proofs.YtcflepnckjappaaGreat
open Go.RowKit Go.Lib Go.Sort

/-- A view lies in other blocks than texts. -/
theorem ViewAt.grown {w w' : World} {p1 p2 hb tb g i m B : Nat} {t : Int} {v : Value} {ks : List ByteArray} (h : ViewAt w p1 p2 hb tb g i m t) (ho : StrOwns w B v ks) (hg : w.grownBy w' v.ownBlock) : ViewAt w' p1 p2 hb tb g i m t := by
  have key : ∀ {b : Nat} {cs : Array Value} {T : TypeId}, w.heap[b]? = some (.cells cs T (0, 0)) → T ≠ 9 → w'.heap[b]? = some (.cells cs T (0, 0)) := fun hb hT => by
    refine (hg.block _ (blk_lt hb) (fun e => ?_)).trans hb
    obtain ⟨cur, hc⟩ := own_kind ho e.symm
    rw [hb] at hc
    injection hc with hc
    injection hc with _ hc _
    exact hT hc
  exact ⟨key h.b1 (by decide), key h.b2 (by decide), key h.b3 (by decide), key h.b4 (by decide)⟩
end Go.Proofs.YtcflepnckjappaaGreat

namespace Go.Proofs.YtcflepnckjappaaGreat
open Go.RowKit Go.Maps

/-- A session's time, where it lies. -/
theorem LgAt.time {w : World} {B lb m N g i : Nat} {h : ByteArray → Value} {f s : Sl} {hs : List SeH} {d : VsD} (q : LgAt w B lb m N h f s hs d) (hg : s.a = some ⟨g, 0, none⟩) (hi : i < hs.length) : w.cell? ⟨g, i * 3 + 1, none⟩ = some (.int .i64 hs[i].X.t) ∧ g < w.heap.size := by
  obtain ⟨g', hg', -, -, hl, -, c1, -⟩ := q.vz.sesAt hi
  rw [hg] at hg'
  injection hg' with hg'
  injection hg' with hg' _ _
  subst hg'
  exact ⟨c1, hl⟩
end Go.Proofs.YtcflepnckjappaaGreat

namespace Go.Proofs.YtcflepnckjappaaGreat
open Go.RowKit Go.Maps

end Go.Proofs.YtcflepnckjappaaGreat

namespace Go.Proofs.YtcflepnckjappaaGreat
open Go.RowKit

end Go.Proofs.YtcflepnckjappaaGreat

namespace Go.Proofs.YtcflepnckjappaaGreat
open Go.RowKit Go.Maps

end Go.Proofs.YtcflepnckjappaaGreat
