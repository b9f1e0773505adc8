/-
  The walk of a device's method crash.
-/
import Derived.Test.YtdiakahaghggiaaKept
import Derived.Test.YtdiakahaghggiaaDevC
import Derived.Test.YtdiakahaghggiaaSpecPut
import Derived.Test.YtdiakahaghggiaaDevS
import Derived.Deep.RegionLaw
namespace Go.Proofs.Ytdiakahaghggiaa
open Go.RowKit Go.Maps

/-- The kept ones, as they lie. -/
theorem kept_row {w : World} {base : Nat} {v : Value} {l : List WD} (h : w.ownsRow base 96 17 v l.length (allCells l)) : ∃ a cap, v = .slice a l.length cap ∧ (0 < l.length → ∃ g, a = some ⟨g, 0, none⟩ ∧ l.length ≤ cap ∧ cap ≤ maxLen ∧ base ≤ g ∧ g < w.heap.size ∧ ∀ j, j < l.length * 17 → w.cell? ⟨g, j, none⟩ = (allCells l)[j]?) := by
  rcases wait_form h with ⟨rfl, hn⟩ | ⟨g, cap, rfl, h1, h2, h3, h4⟩
  · exact ⟨none, 0, by rw [hn], fun h => by omega⟩
  · exact ⟨_, cap, rfl, fun _ => ⟨g, rfl, h1, h2, (h.lt g rfl).1, h3, h4⟩⟩
/-- The law of a sector that waits, laid into the box that was made last. -/
theorem wpList_boxw (w : World) {ops : Array Oper} {rest : List Oper} {o : Oper} {a : Act} {Q : Exit → Act → World → Prop} (hg : o.guard = none) (x y : Operand) (hop : o.op = Op.store 96 x y) (c c' : Array Value)
    (hx : a.eval x = .pointer (some ⟨w.heap.size, 0, none⟩)) (hy : a.eval y = .agg c') (hc : c.size = 17) (hc' : c'.size = 17) (h1 : c'.all (·.oneCell') = true)
    (hK : wpList Try.prog ops Q rest (a.put o.dst undef) (w.alloc (.cells c' 96))) : wpList Try.prog ops Q (o :: rest) a (w.alloc (.cells c 96)) := by
  refine wpList_plain hg fun K' hK' => ?_
  have hrun := run_storeAt_new (P := Try.prog) w 96 c c' (by rw [ws_info, hc']) (by rw [hc, hc']) h1
  unfold Oper.wp
  simp [execOp, hop, hx, hy, hrun, Result.andThen]
  exact hK' _ _ hK
theorem wpList_box1 (w : World) (g : Nat) (hgs : g = w.heap.size) {ops : Array Oper} {rest : List Oper} {o : Oper} {a : Act} {Q : Exit → Act → World → Prop} (hg : o.guard = none) (x y : Operand) (hop : o.op = Op.store 90 x y) (c c' : Array Value)
    (hx : a.eval x = .pointer (some ⟨g, 0, none⟩)) (hy : a.eval y = .agg c') (hc : c.size = 16) (hc' : c'.size = 16) (h1 : c'.all (·.oneCell') = true)
    (hK : wpList Try.prog ops Q rest (a.put o.dst undef) (w.alloc (.cells c' 90))) : wpList Try.prog ops Q (o :: rest) a (w.alloc (.cells c 90)) := by
  subst hgs
  exact wpList_box w hg x y hop c c' hx hy hc hc' h1 hK
theorem ws_all (d : WD) : ((wcells d).toArray).all (·.oneCell') = true := all_oneCell_toArray (wcells_one d)
/-- The bytes of a sector that waits, in the box that was made last. -/
theorem box_range (w : World) (n : Int) (s : List Int) : (w.alloc (.cells (wcells ⟨n, s⟩).toArray 96)).rangeAt w.heap.size 1 (s.map (Value.int .u8)) := by
  intro j v hv
  rw [cell_new rfl, List.getElem?_toArray]
  have e : wcells ⟨n, s⟩ = .int .i64 n :: s.map (Value.int .u8) := rfl
  rw [e, show 1 + j = j + 1 by omega, List.getElem?_cons_succ]
  exact hv
/-- A look-up and a store whose runs are known, as steps of a region that draws. -/
theorem step_lookup_eq {P : Program} {ops : Array Oper} {o : Oper} {a : Act} {w : World} {K : Act → World → Prop} {Q : Exit → Act → World → Prop} {E : Prop}
    (hg : o.guard = none) (m x : Operand) (t : TypeId) (hop : o.op = Op.lookup t m x false)
    (vm vx v' : Value) (hm : a.eval m = vm) (hx : a.eval x = vx) (hrun : (Instr.lookup t vm vx false).run P w = .ok v' w) (hK : K (a.put o.dst v') w) :
    if Region.wanted o (yielded ops a.tmps) = true then Oper.wp P o a w K Q else E := by
  have hw : Region.wanted o (yielded ops a.tmps) = true := by simp [Region.wanted, hg]
  rw [if_pos hw]
  unfold Oper.wp
  simp [execOp, hop, hm, hx, hrun, Result.andThen]
  exact hK
theorem step_store_eq {P : Program} {ops : Array Oper} {o : Oper} {a : Act} {w : World} {K : Act → World → Prop} {Q : Exit → Act → World → Prop} {E : Prop}
    (hg : o.guard = none) (x y : Operand) (t : TypeId) (hop : o.op = Op.store t x y)
    (vx vy : Value) (w' : World) (hx : a.eval x = vx) (hy : a.eval y = vy) (hrun : (Instr.storeAt t vx vy).run P w = .ok () w') (hK : K (a.put o.dst undef) w') :
    if Region.wanted o (yielded ops a.tmps) = true then Oper.wp P o a w K Q else E := by
  have hw : Region.wanted o (yielded ops a.tmps) = true := by simp [Region.wanted, hg]
  rw [if_pos hw]
  unfold Oper.wp
  simp [execOp, hop, hx, hy, hrun, Result.andThen]
  exact hK
/-- The first t bytes of a row are copied into a sector's box. -/
theorem sec_copy {w : World} {g b so t : Nat} {fs s : List Int} (h : w.heap[g]? = some (.cells (fs.map (Value.int .u8)).toArray 90 (0, 0))) (hr : Row w (some ⟨b, so, none⟩) s.length s) (ht : t ≤ s.length) (ht2 : t ≤ fs.length) (dc sc : Nat) :
    ∃ w', (Builtin.copy_ #[22, 22] 3 #[.slice (some ⟨g, 0, none⟩) t dc, .slice (some ⟨b, so, none⟩) s.length sc]).run Try.prog w = .ok (.int .i64 (t : Int)) w' ∧ w'.heap[g]? = some (.cells ((s.take t ++ fs.drop t).map (Value.int .u8)).toArray 90 (0, 0)) ∧ Only g w w' := by
  have hl : (s.take t).length = t := by simp; omega
  have hc := run_copy_row (P := Try.prog) w 22 22 3 5 g 0 t dc ⟨b, so, none⟩ s.length sc _ 90 ((s.take t).map (Value.int .u8)) Try.underlying22 u8_info h (by rw [List.length_map, hl]; exact (Nat.min_eq_right ht).symm) (fun j v hv => by
      have hj : j < t := by have := (List.getElem?_eq_some_iff.1 hv).1; simp at this; omega
      obtain ⟨b', off', e, hcell⟩ := hr.2 j (by omega)
      injection e with e
      injection e with e1 e2
      subst e1 e2
      rw [Addr.add_mid, hcell, ← hv]
      simp [List.getD, hj, show j < s.length by omega]) (by simp; omega) (all_u8 _)
  have hgo : goInt ((((s.take t).map (Value.int .u8)).length : Nat) : Int) = .int .i64 (t : Int) := by simp [goInt]; omega
  rw [hgo] at hc
  have e : ((fs.map (Value.int .u8)).toArray.toList.take 0 ++ (s.take t).map (Value.int .u8) ++ (fs.map (Value.int .u8)).toArray.toList.drop (0 + ((s.take t).map (Value.int .u8)).length)).toArray = ((s.take t ++ fs.drop t).map (Value.int .u8)).toArray := by
    simp [List.map_drop, Nat.min_eq_left ht]
  rw [e] at hc
  refine ⟨_, hc, setRow_heap _ _ _ _ _ _ h, ?_⟩
  refine ⟨rfl, rfl, rfl, by simp [World.setRow], fun k hk => ?_, fun a => ?_⟩
  · simp [World.setRow, Array.getElem?_modify, Ne.symm hk]
  · by_cases e : a.block = g
    · have h2 := setRow_heap w g _ (((s.take t ++ fs.drop t).map (Value.int .u8)).toArray) 90 (0, 0) h
      simp only [World.frozen?, e, h, h2]
    · have h2 : ∀ c', (w.setRow g c').heap[a.block]? = w.heap[a.block]? := fun c' => by simp [World.setRow, Array.getElem?_modify, Ne.symm e]
      simp only [World.frozen?, h2]
set_option maxRecDepth 100000 in
set_option maxHeartbeats 4000000 in
theorem crash_many (base p N : Nat) (S : DS) (ak : Option Addr) (nk ck : Nat) (ks : List Bool) (t : Nat) (w : World) (hD : Dev w base p N S) (hN : N ≤ 1000000000) (hw : S.ws.length ≤ 4096) (hB : BRow w ak nk ks) (hk : nk ≤ 1048576) (ht : t ≤ 16) :
    Calls Try.prog 46 #[.pointer (some ⟨p, 0, none⟩), .slice ak nk ck, .int .i64 (t : Int)] w fun e w' => e = .returned (.int .i64 0) ∧ (∃ S', Dev w' base p (N + 4096) S' ∧ S'.ws = [] ∧ secBytes S'.hc S'.hf = crashD (secBytes S.hc S.hf) S.ws ks t ∧ S'.rc = S'.hc ∧ S'.rf = S'.hf) ∧ Below base w w' ∧ KeepB w w' := by
  have HK := hide (kept_any base p N S ak nk ck ks w hD hw hB hk)
  obtain ⟨mh, mr, v, hd⟩ := hD
  have HD := hide hd
  clear hd hB
  go_enter Try.func46, Try.ntmps46
  go_wp2_with (go_at_call 63; refine (unhide HK).mono ?_; rintro e w1 ⟨v1, rfl, hO, hb1⟩; obtain ⟨a1, cap1, rfl, hrow⟩ := kept_row hO)
  have HR := hide hrow
  have HM := hide (show ∀ d ∈ keptD S.ws ks, WDok d from fun d hd => (unhide HD).wok d (keptD_mem _ _ d hd))
  have hll := keptD_len S.ws ks
  have HCD := hide (show crashD (secBytes S.hc S.hf) S.ws ks t = crAt (secBytes S.hc S.hf) (keptD S.ws ks) t (keptD S.ws ks).length from rfl)
  have D1 := hide ((unhide HD).below hb1)
  have hlow := (unhide HD).low
  have hpl : p < w.heap.size := cell_lt (unhide HD).c0
  have B1 := hide (show Below base w w1 ∧ KeepB w w1 from ⟨hb1.mono (show base ≤ w.heap.size by omega), KeepB.of_below hb1⟩)
  have s1 := hb1.size
  clear hO hrow hb1
  generalize keptD S.ws ks = l at *
  go_wp2_with fail
  go_loopw [22] (fun i wr => ∃ (k : Nat) (c : Nat) (f : Nat → List Int), k ≤ l.length ∧ i = .int .i64 k ∧ Hid (DevAt wr base p mh mr v (N + k) { S with hc := c, hf := f }) ∧ Hid (secBytes c f = crAt (secBytes S.hc S.hf) l t k) ∧ Hid (∀ b, w.heap.size ≤ b → b < w1.heap.size → wr.heap[b]? = w1.heap[b]?) ∧ w1.heap.size ≤ wr.heap.size ∧ Hid (Below base w wr ∧ KeepB w wr)) (fun i _ => l.length - (intOf i).toNat)
  case atStart => exact ⟨0, S.hc, S.hf, Nat.zero_le _, rfl, unhide D1, (crAt_zero _ _ _).symm, fun _ _ _ => rfl, Nat.le_refl _, unhide B1⟩
  case round =>
    clear D1 B1
    obtain ⟨k, c, f, hk', rfl, hD, hC, hG, hsz, hb⟩ := hrel
    by_cases hlt : k < l.length
    · obtain ⟨g2, rfl, hc1, hc2, hg2, hg2l, hcells⟩ := unhide HR (by omega)
      obtain ⟨hd0, hd1, hd16⟩ := unhide HM _ (List.getElem_mem hlt)
      have hrg := ws_range (w := wr) (g := g2) (l := l) (fun j hj => (World.cell?_of_block (w := w1) (a := ⟨g2, j, none⟩) (unhide hG g2 hg2 hg2l)).trans (hcells j hj)) hlt (fun d hd => (unhide HM d hd).2.2)
      have HRG := hide hrg
      clear hcells hrg
      unfold maxLen at hc2
      have CM := hide (show k + 1 < l.length → crAt (secBytes S.hc S.hf) l t (k + 1) = putD (crAt (secBytes S.hc S.hf) l t k) (l[k]'hlt) 16 from fun h => crAt_mid _ _ _ _ h)
      have CL := hide (show k + 1 = l.length → crAt (secBytes S.hc S.hf) l t (k + 1) = putD (crAt (secBytes S.hc S.hf) l t k) (l[k]'hlt) t from fun h => crAt_last _ _ _ _ h)
      obtain ⟨n, s, hpd, hn127, hs16⟩ : ∃ (n : Nat) (s : List Int), l[k] = ⟨(n : Int), s⟩ ∧ n ≤ 127 ∧ s.length = 16 := ⟨l[k].at_.toNat, l[k].xs, by rw [Int.toNat_of_nonneg hd0], by omega, hd16⟩
      rw [hpd] at HRG CM CL
      clear hpd hd0 hd1 hd16
      have hl17 := wcells_len (d := ⟨(n : Int), s⟩) hs16
      have HI := hide (show (Try.prog.info? 96).map (·.size) = some (wcells ⟨(n : Int), s⟩).length by rw [ws_info, hl17])
      have HS := hide (show (Try.prog.info? 90).map (·.size) = some (s.map (Value.int .u8)).length by rw [sec_info]; simp [hs16])
      have hmhl : mh < w.heap.size := (unhide HD).held.lt
      have FIN := hide (fun (wx w3 : World) (s' : List Int) (hx : Below wr.heap.size wr wx) (h16' : s'.length = 16) (hm : SecMap w3 mh (N + k + 1) (updS f n s')) (hc : w3.cell? ⟨p, 0, none⟩ = some (.int .i64 ((max c (n + 1) : Nat) : Int))) (hp : Put2 p 0 mh wx w3) =>
        show DevAt w3 base p mh mr v (N + (k + 1)) { S with hc := max c (n + 1), hf := updS f n s' } ∧ (∀ b, w.heap.size ≤ b → b < w1.heap.size → w3.heap[b]? = w1.heap[b]?) ∧ w1.heap.size ≤ w3.heap.size ∧ Below base w w3 ∧ KeepB w w3 from by
          have dx := (unhide hD).below hx
          have r := dx.putHeld h16' (by omega) hm hc hp
          refine ⟨r.1, fun b h1 h2 => ?_, Nat.le_trans hsz (Nat.le_trans hx.size hp.size), (unhide hb).1.trans ((hx.mono (by omega)).trans r.2), (unhide hb).2.trans ((KeepB.of_below hx).trans (KeepB.of_dev dx fun j hj h1 h2 _ _ => hp.block j h1 h2 hj))⟩
          rw [hp.block b (by omega) (by omega) (Nat.lt_of_lt_of_le h2 (Nat.le_trans hsz hx.size)), hx.block b (by omega)]
          exact unhide hG b h1 h2)
      have hok := (unhide hD).hok
      simp only at hok
      have SB := hide (fun t' (ht' : t' ≤ 16) => secBytes_put c f hok.2.1 hok.2.2 ⟨(n : Int), s⟩ hs16 t' ht')
      have SB16 := hide (secBytes_put16 c f hok.2.1 hok.2.2 ⟨(n : Int), s⟩ hs16)
      have hfn := hok.2.1 n
      have DX := hide (fun (wx : World) (hx : Below wr.heap.size wr wx) => (unhide hD).below hx)
      have HPUT := hide (fun (s' : List Int) (x : World) (h16' : s'.length = 16) (hx : SecMap x mh (N + k) f) => put_any p 0 mh (N + k) n c f s' x h16' hx (by unfold maxLen; omega) (by omega))
      clear hok
      by_cases hlast : k + 1 = l.length
      · have hne : ((k : Int) == (l.length : Int) - 1) = true := by simp; omega
        go_wp2_with (first
          | (refine wpList_load_mid rfl 96 _ rfl g2 (k * 17) rfl _ _ (unhide HRG) Try.underlying96 rfl (unhide HI) ?_)
          | (refine wpList_boxw wr rfl _ _ rfl _ (wcells ⟨(n : Int), s⟩).toArray rfl rfl rfl (by simp [hl17]) (ws_all _) ?_)
          | (refine wpList_load_mid rfl 90 _ rfl wr.heap.size 1 rfl (s.map (Value.int .u8)) _ (box_range wr _ _) Try.underlying90 rfl (unhide HS) ?_)
          | (refine wpList_box1 (wr.alloc (.cells (wcells ⟨(n : Int), s⟩).toArray 96)) (wr.heap.size + 1) (by simp) rfl _ _ rfl _ (s.map (Value.int .u8)).toArray rfl rfl rfl (by simp [hs16]) (sec_one _) ?_))
        obtain ⟨wx, hwx⟩ : ∃ wx, wx = (wr.alloc (.cells (wcells ⟨(n : Int), s⟩).toArray 96)).alloc (.cells (s.map (Value.int .u8)).toArray 90) := ⟨_, rfl⟩
        obtain ⟨wy, hwy⟩ : ∃ wy, wy = (wr.alloc (.cells (wcells ⟨(n : Int), s⟩).toArray 96)).alloc (.cells ((f n).map (Value.int .u8)).toArray 90) := ⟨_, rfl⟩
        have bX : ∀ o, Below wr.heap.size wr ((wr.alloc (.cells (wcells ⟨(n : Int), s⟩).toArray 96)).alloc o) := fun o => ((Below.refl wr.heap.size wr).alloc (Nat.le_refl _) _).alloc (by simp) _
        have BX : Below wr.heap.size wr wx := by rw [hwx]; exact bX _
        have BY : Below wr.heap.size wr wy := by rw [hwy]; exact bX _
        have a0 : wx.cell? ⟨wr.heap.size, 0, none⟩ = some (.int .i64 (n : Int)) := by rw [hwx]; exact (cell_old (by simp)).trans ((cell_new rfl).trans rfl)
        have b0 : wy.cell? ⟨wr.heap.size, 0, none⟩ = some (.int .i64 (n : Int)) := by rw [hwy]; exact (cell_old (by simp)).trans ((cell_new rfl).trans rfl)
        have m1 := (unhide DX wx BX).c1
        have hlook := SecMap.lookup (w := wx.drew) (unhide DX wx BX).held (show n < 128 by omega)
        obtain ⟨F, hF⟩ : ∃ F, F = ((f n).map (Value.int .u8)).toArray := ⟨_, rfl⟩
        have hF16 : F.size = 16 := by rw [hF]; simp [hfn]
        rw [show secV (f n) = .agg F by rw [hF]; rfl] at hlook
        have hst : (storeCells ⟨wr.heap.size + 1, 0, none⟩ F.toList 0).run Try.prog wx.drew = .ok () wy.drew := by
          have := run_storeCells_new (P := Try.prog) (wr.alloc (.cells (wcells ⟨(n : Int), s⟩).toArray 96)).drew 90 (s.map (Value.int .u8)).toArray F (by rw [sec_info, hF16]) (by rw [hF16]; simp [hs16]) (by rw [hF]; exact sec_one _)
          rw [hwx, hwy, ← hF]
          have e : (wr.alloc (.cells (wcells ⟨(n : Int), s⟩).toArray 96)).drew.heap.size = wr.heap.size + 1 := by show (wr.alloc _).heap.size = _; simp
          rw [e] at this
          exact this
        have hyb : wy.heap[wr.heap.size + 1]? = some (.cells ((f n).map (Value.int .u8)).toArray 90 (0, 0)) := by
          rw [hwy]
          have e : wr.heap.size + 1 = (wr.alloc (.cells (wcells ⟨(n : Int), s⟩).toArray 96)).heap.size := by simp
          rw [e]; exact heap_alloc_last _ _
        have hrw : Row wy (some ⟨wr.heap.size, 1, none⟩) s.length s := ⟨rfl, fun i hi => ⟨_, 1, rfl, by
          have := box_range wr (n : Int) s i (.int .u8 (s.getD i 0)) (by simp [List.getD, hi])
          rw [hwy]
          exact (cell_old (by simp)).trans this⟩⟩
        have szy : wr.heap.size + 1 < wy.heap.size := by rw [hwy]; simp
        rw [← hwx]
        clear hwx hwy bX
        clear hF
        go_region
        obtain ⟨wz, hcp, hzb, hzo⟩ := sec_copy (w := wy.drew.drew) hyb hrw (t := t) (by omega) (by omega) 16 16
        rw [hs16] at hcp
        clear hst hlook hF16 a0 m1 BX
        go_wp2_with fail
        go_region_law (refine step_copy_eq rfl _ _ 22 rfl _ _ _ wz rfl rfl hcp ?_)
        have BZ := hide (BY.trans (show Below wr.heap.size wy wz from have h := hzo.below (B := wr.heap.size) (by omega); ⟨h.os, h.tape, h.output, h.size, h.block⟩))
        have a0 : wz.cell? ⟨wr.heap.size, 0, none⟩ = some (.int .i64 (n : Int)) := (hzo.cell (p := ⟨wr.heap.size, 0, none⟩) (by simp)).trans b0
        obtain ⟨s', hs'⟩ : ∃ s', s' = s.take t ++ (f n).drop t := ⟨_, rfl⟩
        have hs16' : s'.length = 16 := by rw [hs']; simp [hs16, hfn]; omega
        rw [← hs'] at hzb
        obtain ⟨cs, hcs⟩ : ∃ cs, cs = (s'.map (Value.int .u8)).toArray := ⟨_, rfl⟩
        have Y := hide (show ∀ j, wz.cell? ⟨wr.heap.size + 1, j, none⟩ = cs[j]? from fun j => by rw [hcs]; simp [World.cell?, hzb])
        have hz : cs.size = 16 := by rw [hcs]; simp [hs16']
        have hsv : secV s' = .agg #[cs[0], cs[1], cs[2], cs[3], cs[4], cs[5], cs[6], cs[7], cs[8], cs[9], cs[10], cs[11], cs[12], cs[13], cs[14], cs[15]] := by rw [eta16 hz, hcs]; rfl
        have HP := unhide HPUT s' wz hs16' (unhide DX wz (unhide BZ)).held (unhide DX wz (unhide BZ)).c0 (unhide DX wz (unhide BZ)).c1 ((unhide DX wz (unhide BZ)).free 0) (unhide DX wz (unhide BZ)).apart.1
        have HPd := unhide HPUT s' wz.drew hs16' (unhide DX wz (unhide BZ)).held (unhide DX wz (unhide BZ)).c0 (unhide DX wz (unhide BZ)).c1 ((unhide DX wz (unhide BZ)).free 0) (unhide DX wz (unhide BZ)).apart.1
        rw [hsv] at HP HPd
        have HPH := hide HP
        have HPHd := hide HPd
        have RC := hide (show secBytes (max c (n + 1)) (updS f n s') = crAt (secBytes S.hc S.hf) l t (k + 1) by
          rw [unhide CL hlast, ← unhide hC, hs']; exact unhide SB t ht)
        have y0 : wz.cell? ⟨wr.heap.size + 1, 0, none⟩ = some cs[0] := (unhide Y 0).trans (Array.getElem?_eq_getElem (by omega))
        have y1 : wz.cell? ⟨wr.heap.size + 1, 1, none⟩ = some cs[1] := (unhide Y 1).trans (Array.getElem?_eq_getElem (by omega))
        have y2 : wz.cell? ⟨wr.heap.size + 1, 2, none⟩ = some cs[2] := (unhide Y 2).trans (Array.getElem?_eq_getElem (by omega))
        have y3 : wz.cell? ⟨wr.heap.size + 1, 3, none⟩ = some cs[3] := (unhide Y 3).trans (Array.getElem?_eq_getElem (by omega))
        have y4 : wz.cell? ⟨wr.heap.size + 1, 4, none⟩ = some cs[4] := (unhide Y 4).trans (Array.getElem?_eq_getElem (by omega))
        have y5 : wz.cell? ⟨wr.heap.size + 1, 5, none⟩ = some cs[5] := (unhide Y 5).trans (Array.getElem?_eq_getElem (by omega))
        have y6 : wz.cell? ⟨wr.heap.size + 1, 6, none⟩ = some cs[6] := (unhide Y 6).trans (Array.getElem?_eq_getElem (by omega))
        have y7 : wz.cell? ⟨wr.heap.size + 1, 7, none⟩ = some cs[7] := (unhide Y 7).trans (Array.getElem?_eq_getElem (by omega))
        have y8 : wz.cell? ⟨wr.heap.size + 1, 8, none⟩ = some cs[8] := (unhide Y 8).trans (Array.getElem?_eq_getElem (by omega))
        have y9 : wz.cell? ⟨wr.heap.size + 1, 9, none⟩ = some cs[9] := (unhide Y 9).trans (Array.getElem?_eq_getElem (by omega))
        have y10 : wz.cell? ⟨wr.heap.size + 1, 10, none⟩ = some cs[10] := (unhide Y 10).trans (Array.getElem?_eq_getElem (by omega))
        have y11 : wz.cell? ⟨wr.heap.size + 1, 11, none⟩ = some cs[11] := (unhide Y 11).trans (Array.getElem?_eq_getElem (by omega))
        have y12 : wz.cell? ⟨wr.heap.size + 1, 12, none⟩ = some cs[12] := (unhide Y 12).trans (Array.getElem?_eq_getElem (by omega))
        have y13 : wz.cell? ⟨wr.heap.size + 1, 13, none⟩ = some cs[13] := (unhide Y 13).trans (Array.getElem?_eq_getElem (by omega))
        have y14 : wz.cell? ⟨wr.heap.size + 1, 14, none⟩ = some cs[14] := (unhide Y 14).trans (Array.getElem?_eq_getElem (by omega))
        have y15 : wz.cell? ⟨wr.heap.size + 1, 15, none⟩ = some cs[15] := (unhide Y 15).trans (Array.getElem?_eq_getElem (by omega))
        have S16' := hide hs16'
        clear hcs hsv HP HPd hs' hcp hzb hzo hyb hrw BY b0 szy hs16'
        go_wp2_with fail
        go_region_with (go_at_call 59; (first | refine (unhide HPHd).mono ?_ | refine (unhide HPH).mono ?_); rintro e w3 ⟨rfl, hm3, hc3, hp3⟩)
        all_goals
          have R := hide (unhide FIN wz w3 s' (unhide BZ) (unhide S16') hm3 hc3 ⟨hp3.os, hp3.tape, hp3.output, hp3.size, hp3.block, hp3.cell, hp3.frozen, hp3.kind⟩)
          clear hm3 hc3 hp3
          go_wp2_with fail
          go_roundw
          case rel => exact ⟨k + 1, _, _, by omega, by go_num, (unhide R).1, unhide RC, (unhide R).2.1, (unhide R).2.2.1, (unhide R).2.2.2⟩
          case measure => simp [intOf]; omega
      · have hne : ((k : Int) == (l.length : Int) - 1) = false := by simp; omega
        go_wp2_with (first
          | (refine wpList_load_mid rfl 96 _ rfl g2 (k * 17) rfl _ _ (unhide HRG) Try.underlying96 rfl (unhide HI) ?_)
          | (refine wpList_boxw wr rfl _ _ rfl _ (wcells ⟨(n : Int), s⟩).toArray rfl rfl rfl (by simp [hl17]) (ws_all _) ?_)
          | (refine wpList_load_mid rfl 90 _ rfl wr.heap.size 1 rfl (s.map (Value.int .u8)) _ (box_range wr _ _) Try.underlying90 rfl (unhide HS) ?_)
          | (refine wpList_box1 (wr.alloc (.cells (wcells ⟨(n : Int), s⟩).toArray 96)) (wr.heap.size + 1) (by simp) rfl _ _ rfl _ (s.map (Value.int .u8)).toArray rfl rfl rfl (by simp [hs16]) (sec_one _) ?_))
        have BX := hide (((Below.refl wr.heap.size wr).alloc (Nat.le_refl _) (.cells (wcells ⟨(n : Int), s⟩).toArray 96)).alloc (by simp) (.cells (s.map (Value.int .u8)).toArray 90))
        have a0 : ((wr.alloc (.cells (wcells ⟨(n : Int), s⟩).toArray 96)).alloc (.cells (s.map (Value.int .u8)).toArray 90)).cell? ⟨wr.heap.size, 0, none⟩ = some (.int .i64 (n : Int)) := (cell_old (by simp)).trans ((cell_new rfl).trans rfl)
        have Y := hide (fun j => show ((wr.alloc (.cells (wcells ⟨(n : Int), s⟩).toArray 96)).alloc (.cells (s.map (Value.int .u8)).toArray 90)).cell? ⟨wr.heap.size + 1, j, none⟩ = (s.map (Value.int .u8)).toArray[j]? from cell_new (by simp))
        generalize (wr.alloc (.cells (wcells ⟨(n : Int), s⟩).toArray 96)).alloc (.cells (s.map (Value.int .u8)).toArray 90) = wx at *
        obtain ⟨cs, hcs⟩ : ∃ cs, cs = (s.map (Value.int .u8)).toArray := ⟨_, rfl⟩
        have hz : cs.size = 16 := by rw [hcs]; simp [hs16]
        have hsv : secV s = .agg #[cs[0], cs[1], cs[2], cs[3], cs[4], cs[5], cs[6], cs[7], cs[8], cs[9], cs[10], cs[11], cs[12], cs[13], cs[14], cs[15]] := by rw [eta16 hz, hcs]; rfl
        rw [← hcs] at Y
        have HP := unhide HPUT s wx hs16 (unhide DX wx (unhide BX)).held (unhide DX wx (unhide BX)).c0 (unhide DX wx (unhide BX)).c1 ((unhide DX wx (unhide BX)).free 0) (unhide DX wx (unhide BX)).apart.1
        have HPd := unhide HPUT s wx.drew hs16 (unhide DX wx (unhide BX)).held (unhide DX wx (unhide BX)).c0 (unhide DX wx (unhide BX)).c1 ((unhide DX wx (unhide BX)).free 0) (unhide DX wx (unhide BX)).apart.1
        rw [hsv] at HP HPd
        have HPH := hide HP
        have HPHd := hide HPd
        rw [← hcs]
        have y0 : wx.cell? ⟨wr.heap.size + 1, 0, none⟩ = some cs[0] := (unhide Y 0).trans (Array.getElem?_eq_getElem (by omega))
        have y1 : wx.cell? ⟨wr.heap.size + 1, 1, none⟩ = some cs[1] := (unhide Y 1).trans (Array.getElem?_eq_getElem (by omega))
        have y2 : wx.cell? ⟨wr.heap.size + 1, 2, none⟩ = some cs[2] := (unhide Y 2).trans (Array.getElem?_eq_getElem (by omega))
        have y3 : wx.cell? ⟨wr.heap.size + 1, 3, none⟩ = some cs[3] := (unhide Y 3).trans (Array.getElem?_eq_getElem (by omega))
        have y4 : wx.cell? ⟨wr.heap.size + 1, 4, none⟩ = some cs[4] := (unhide Y 4).trans (Array.getElem?_eq_getElem (by omega))
        have y5 : wx.cell? ⟨wr.heap.size + 1, 5, none⟩ = some cs[5] := (unhide Y 5).trans (Array.getElem?_eq_getElem (by omega))
        have y6 : wx.cell? ⟨wr.heap.size + 1, 6, none⟩ = some cs[6] := (unhide Y 6).trans (Array.getElem?_eq_getElem (by omega))
        have y7 : wx.cell? ⟨wr.heap.size + 1, 7, none⟩ = some cs[7] := (unhide Y 7).trans (Array.getElem?_eq_getElem (by omega))
        have y8 : wx.cell? ⟨wr.heap.size + 1, 8, none⟩ = some cs[8] := (unhide Y 8).trans (Array.getElem?_eq_getElem (by omega))
        have y9 : wx.cell? ⟨wr.heap.size + 1, 9, none⟩ = some cs[9] := (unhide Y 9).trans (Array.getElem?_eq_getElem (by omega))
        have y10 : wx.cell? ⟨wr.heap.size + 1, 10, none⟩ = some cs[10] := (unhide Y 10).trans (Array.getElem?_eq_getElem (by omega))
        have y11 : wx.cell? ⟨wr.heap.size + 1, 11, none⟩ = some cs[11] := (unhide Y 11).trans (Array.getElem?_eq_getElem (by omega))
        have y12 : wx.cell? ⟨wr.heap.size + 1, 12, none⟩ = some cs[12] := (unhide Y 12).trans (Array.getElem?_eq_getElem (by omega))
        have y13 : wx.cell? ⟨wr.heap.size + 1, 13, none⟩ = some cs[13] := (unhide Y 13).trans (Array.getElem?_eq_getElem (by omega))
        have y14 : wx.cell? ⟨wr.heap.size + 1, 14, none⟩ = some cs[14] := (unhide Y 14).trans (Array.getElem?_eq_getElem (by omega))
        have y15 : wx.cell? ⟨wr.heap.size + 1, 15, none⟩ = some cs[15] := (unhide Y 15).trans (Array.getElem?_eq_getElem (by omega))
        clear hcs hsv HP HPd
        go_region_with (go_at_call 59; (first | refine (unhide HPHd).mono ?_ | refine (unhide HPH).mono ?_); rintro e w3 ⟨rfl, hm3, hc3, hp3⟩)
        all_goals
          have R := hide (unhide FIN wx w3 s (unhide BX) hs16 hm3 hc3 ⟨hp3.os, hp3.tape, hp3.output, hp3.size, hp3.block, hp3.cell, hp3.frozen, hp3.kind⟩)
          have RC := hide (show secBytes (max c (n + 1)) (updS f n s) = crAt (secBytes S.hc S.hf) l t (k + 1) by
            rw [unhide CM (by omega), ← unhide hC]; exact unhide SB16)
          clear hm3 hc3 hp3
          go_wp2_with fail
          go_roundw
          case rel => exact ⟨k + 1, _, _, by omega, by go_num, (unhide R).1, unhide RC, (unhide R).2.1, (unhide R).2.2.1, (unhide R).2.2.2⟩
          case measure => simp [intOf]; omega
    · obtain rfl : k = l.length := by omega
      have RC := hide ((unhide hC).trans (unhide HCD).symm)
      have D0 := unhide hD
      have k2 := D0.c2
      have k3 := D0.c3
      have k4 := D0.c4
      have hpr : p < wr.heap.size := cell_lt D0.c0
      have HCL := hide (secs_clone_any p 0 mh (N + l.length) c f wr D0.held D0.c0 D0.c1)
      clear hC HCD D0
      go_wp2_with fail
      refine (unhide HCL).mono ?_
      rintro e w4 ⟨g, rfl, hg, hs4, hb4⟩
      have q2 := (hb4.cell (p := ⟨p, 2, none⟩) hpr).trans k2
      have q3 := (hb4.cell (p := ⟨p, 3, none⟩) hpr).trans k3
      have q4 := (hb4.cell (p := ⟨p, 4, none⟩) hpr).trans k4
      have f2 := (hb4.frozen (p := ⟨p, 2, none⟩) hpr).trans ((unhide hD).free 2)
      have f3 := (hb4.frozen (p := ⟨p, 3, none⟩) hpr).trans ((unhide hD).free 3)
      have f4 := (hb4.frozen (p := ⟨p, 4, none⟩) hpr).trans ((unhide hD).free 4)
      have R := hide ((unhide hD).crashed hb4 hg hs4)
      have KB := hide (show ∀ o1 o2 o3 a b c, KeepB wr (((w4.setCell ⟨p, o1, none⟩ a).setCell ⟨p, o2, none⟩ b).setCell ⟨p, o3, none⟩ c) from fun _ _ _ _ _ _ => KeepB.of_dev (unhide hD) fun j hj h1 _ _ _ => ((Below.heap_setCell _ _ _ _ h1).trans ((Below.heap_setCell _ _ _ _ h1).trans (Below.heap_setCell _ _ _ _ h1))).trans (hb4.block j hj))
      clear hs4 hb4 k2 k3 k4 HCL
      go_wp2_with fail
      go_ret
      exact ⟨rfl, ⟨_, ⟨mh, g, _, (unhide R).1.mono (by omega)⟩, rfl, unhide RC, rfl, rfl⟩, (unhide hb).1.trans (unhide R).2, (unhide hb).2.trans (unhide KB _ _ _ _ _ _)⟩
theorem crash_any (base p N : Nat) (S : DS) (ak : Option Addr) (nk ck : Nat) (ks : List Bool) (t : Nat) (w : World) (hD : Dev w base p N S) (hN : N ≤ 10000) (hw : S.ws.length ≤ 4096) (hB : BRow w ak nk ks) (hk : nk ≤ 1048576) (ht : t ≤ 16) :
    Calls Try.prog 46 #[.pointer (some ⟨p, 0, none⟩), .slice ak nk ck, .int .i64 (t : Int)] w fun e w' => e = .returned (.int .i64 0) ∧ (∃ S', Dev w' base p 20000 S' ∧ S'.ws = [] ∧ secBytes S'.hc S'.hf = crashD (secBytes S.hc S.hf) S.ws ks t ∧ S'.rc = S'.hc ∧ S'.rf = S'.hf) ∧ Below base w w' :=
  (crash_many base p N S ak nk ck ks t w hD (by omega) hw hB hk ht).mono fun _ _ ⟨h1, ⟨S', ⟨mh, mr, v, hd⟩, h2⟩, h3, _⟩ => ⟨h1, ⟨S', ⟨mh, mr, v, hd.mono (by omega)⟩, h2⟩, h3⟩
set_option maxHeartbeats 1000000 in
theorem crash_bad (p : Nat) (ak : Option Addr) (nk ck : Nat) (t : Int) (w : World) (ht : ¬ (0 ≤ t ∧ t ≤ 16)) :
    Calls Try.prog 46 #[.pointer (some ⟨p, 0, none⟩), .slice ak nk ck, .int .i64 t] w fun e w' => e = .returned (.int .i64 4) ∧ w' = w := by
  by_cases h0 : t < 0
  · go_enter Try.func46, Try.ntmps46
    go_wp2_with fail
    go_ret
    exact ⟨rfl, rfl⟩
  · have h1 : 16 < t := by omega
    go_enter Try.func46, Try.ntmps46
    go_wp2_with fail
    go_ret
    exact ⟨rfl, rfl⟩
end Go.Proofs.Ytdiakahaghggiaa
