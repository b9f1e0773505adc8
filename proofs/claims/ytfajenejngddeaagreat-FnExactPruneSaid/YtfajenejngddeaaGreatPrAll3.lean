/-
  HmB, PuW, VzM, PrK, VoB, VsC, VoC, PrT, PrS, HpL, TxK, PrG, VaA, PuA in one.
-/
import Derived.Test.YtfajenejngddeaaGreatPrAll2
import Derived.Deep.Cut
import Derived.Test.YtfajenejngddeaaGreatVoA
import Derived.Test.YtfajenejngddeaaGreatPrAll1
import Derived.Test.YtfajenejngddeaaGreatBase
import Derived.Test.YtfajenejngddeaaGreatVaL
import Derived.Maps.RangeWalk
import Derived.Sort.EncStr
namespace Go.Proofs.YtfajenejngddeaaGreat
open Go.RowKit Go.Maps

/-- A map's update, as one step of a region that draws. -/
theorem hm_stepUpd {P : Program} {ops : Array Oper} {o : Oper} {a : Act} {w : World} {K : Act → World → Prop} {Q : Exit → Act → World → Prop} {E : Prop}
    (hg : o.guard = none) (m x v : Operand) (t : TypeId) (hop : o.op = Op.mapUpdate t m x v) (vm vx vv : Value) (w' : World) (hm : a.eval m = vm) (hx : a.eval x = vx) (hv : a.eval v = vv)
    (hrun : (Instr.mapUpdate t vm vx vv).run P w = .ok () w') (hK : K (a.put o.dst undef) w') :
    if Region.wanted o (yielded ops a.tmps) = true then Oper.wp P o a w K Q else E := by
  have hw : Region.wanted o (yielded ops a.tmps) = true := by simp [Region.wanted, hg]
  rw [if_pos hw]
  unfold Oper.wp
  simp [execOp, hop, hm, hx, hv, hrun, Result.andThen]
  exact hK
/-- A look-up, and an append, as one step of a region that draws. -/
theorem hm_stepLook {P : Program} {ops : Array Oper} {o : Oper} {a : Act} {w : World} {K : Act → World → Prop} {Q : Exit → Act → World → Prop} {E : Prop}
    (hg : o.guard = none) (m x : Operand) (t : TypeId) (hop : o.op = Op.lookup t m x false) (vm vx v : Value) (hm : a.eval m = vm) (hx : a.eval x = vx)
    (hrun : (Instr.lookup t vm vx false).run P w = .ok v w) (hK : K (a.put o.dst v) w) :
    if Region.wanted o (yielded ops a.tmps) = true then Oper.wp P o a w K Q else E := by
  have hw : Region.wanted o (yielded ops a.tmps) = true := by simp [Region.wanted, hg]
  rw [if_pos hw]
  unfold Oper.wp
  simp [execOp, hop, hm, hx, hrun, Result.andThen]
  exact hK
theorem cb_stepApp2 {P : Program} {ops : Array Oper} {o : Oper} {a : Act} {w : World} {K : Act → World → Prop} {Q : Exit → Act → World → Prop} {E : Prop}
    (hg : o.guard = none) (s x : Operand) (t : TypeId) (hop : o.op = Op.call { callee := Callee.builtin Builtin.append, args := #[s, x], argTypes := #[t, t] })
    (vs vx v' : Value) (w' : World) (hs : a.eval s = vs) (hx : a.eval x = vx) (hrun : (Builtin.append_ #[t, t] o.type #[vs, vx]).run P w = .ok v' w') (hK : K (a.put o.dst v') w') :
    if Region.wanted o (yielded ops a.tmps) = true then Oper.wp P o a w K Q else E := by
  have hw : Region.wanted o (yielded ops a.tmps) = true := by simp [Region.wanted, hg]
  rw [if_pos hw]
  unfold Oper.wp
  simp [execOp, hop, resolve, invoke, builtin, hs, hx, hrun, Result.andThen]
  exact hK
/-- A version put behind those of its key. -/
theorem HisAt.step {w w1 : World} {m N B : Nat} {f : ByteArray → Value} {ds : List VerD} (h : HisAt w m N B f ds) (d : VerD) (hk : d.k.size ≤ maxLen) (hN : N < maxLen) {v' : Value} (o1 : VOwns w1 B v' (grp ds d.k ++ [d]))
    (gr1 : (w.alloc (.cells #[.string d.k, .int .i64 d.t, .string d.v, .bool d.g] 39)).grownBy w1 (f d.k).ownBlock) (loc : v'.ownBlock = (f d.k).ownBlock ∨ v'.ownBlock = some (w.heap.size + 1)) :
    ∃ w2, (Instr.mapUpdate 71 (.map (some m)) (.string d.k) v').run Tryz.prog w1 = .ok () w2 ∧ HisAt w2 m (N + 1) B (fun x => if x = d.k then v' else f x) (ds ++ [d]) ∧ Below m w w1 ∧ Below m w w2 ∧
      ∀ i, i < w.heap.size → i ≠ m → (f d.k).ownBlock ≠ some i → w1.heap[i]? = w.heap[i]? ∧ w2.heap[i]? = w.heap[i]? := by
  have hmw := h.map.lt
  have hmb := h.mb
  have hB : ∀ k g, (f k).ownBlock = some g → B ≤ g ∧ g < w.heap.size := fun k g e => (h.own k).lt g e
  have bA : Below w.heap.size w (w.alloc (.cells #[.string d.k, .int .i64 d.t, .string d.v, .bool d.g] 39)) := (Below.refl _ _).alloc (Nat.le_refl _) _
  have hA : ∀ i, i < w.heap.size → (f d.k).ownBlock ≠ some i → w1.heap[i]? = w.heap[i]? := fun i hi hne => (gr1.block i (Nat.lt_of_lt_of_le hi bA.size) (fun e => hne e.symm)).trans (bA.block i hi)
  have hM1 : HMap w1 m N f := h.map.block (hA m hmw (fun e => by have := (hB _ _ e).1; omega))
  obtain ⟨w2, hr2, hm2, gr2⟩ := hM1.update hk hN v' (fun e => by subst e; have h1 := o1.2; simp at h1)
  have hs1 : w.heap.size ≤ w1.heap.size := Nat.le_trans bA.size gr1.size
  have hA2 : ∀ i, i < w.heap.size → i ≠ m → (f d.k).ownBlock ≠ some i → w2.heap[i]? = w.heap[i]? := fun i hi hm' hne => (gr2.block i (Nat.lt_of_lt_of_le hi hs1) (fun e => hm' (by injection e))).trans (hA i hi hne)
  refine ⟨w2, hr2, ⟨hm2, fun k => ?_, fun k j hkj g hg hj => ?_, hmb, fun k hk0 => ?_⟩, ?_, ?_, fun i hi hm' hne => ⟨hA i hi hne, hA2 i hi hm' hne⟩⟩
  · show VOwns w2 B (if k = d.k then v' else f k) (grp (ds ++ [d]) k)
    by_cases e : k = d.k
    · subst e
      rw [if_pos rfl, grp_snoc_same]
      exact World.ownsRow.kept o1 gr2 (by
        cases hu : v'.ownBlock with
        | none => exact .inl rfl
        | some g => exact .inr fun e => by have h1 := (o1.lt g hu).1; injection e with e; omega)
    · rw [if_neg e, grp_snoc_other _ _ e]
      refine World.ownsRow.kept (World.ownsRow.kept (vowns_below (h.own k) bA) gr1 ?_) gr2 ?_
      · cases hu : (f k).ownBlock with
        | none => exact .inl rfl
        | some g => exact .inr fun e' => h.far k d.k e g hu e'.symm
      · cases hu : (f k).ownBlock with
        | none => exact .inl rfl
        | some g => exact .inr fun e' => by have h1 := (hB k g hu).1; injection e' with e'; omega
  · revert hg hj
    show (if k = d.k then v' else f k).ownBlock = some g → (if j = d.k then v' else f j).ownBlock = some g → False
    intro hg hj
    by_cases e : k = d.k
    · have e2 : ¬ j = d.k := fun e2 => hkj (e.trans e2.symm)
      rw [if_pos e] at hg
      rw [if_neg e2] at hj
      rcases loc with l1 | l1
      · exact h.far j d.k e2 g hj (l1.symm.trans hg)
      · have h1 := (hB j g hj).2
        rw [l1] at hg
        injection hg with hg
        omega
    · rw [if_neg e] at hg
      by_cases e2 : j = d.k
      · rw [if_pos e2] at hj
        rcases loc with l1 | l1
        · exact h.far k d.k e g hg (l1.symm.trans hj)
        · have h1 := (hB k g hg).2
          rw [l1] at hj
          injection hj with hj
          omega
      · rw [if_neg e2] at hj
        exact h.far k j hkj g hg hj
  · show (if k = d.k then v' else f k) = _
    by_cases e : k = d.k
    · subst e
      rw [grp_snoc_same] at hk0
      simp at hk0
    · rw [if_neg e]
      rw [grp_snoc_other _ _ e] at hk0
      exact h.no k hk0
  · exact ⟨gr1.os.trans bA.os, gr1.tape.trans bA.tape, gr1.output.trans bA.output, hs1, fun i hi => hA i (by omega) (fun e => by have := (hB _ _ e).1; omega)⟩
  · exact ⟨gr2.os.trans (gr1.os.trans bA.os), gr2.tape.trans (gr1.tape.trans bA.tape), gr2.output.trans (gr1.output.trans bA.output), Nat.le_trans hs1 gr2.size, fun i hi => hA2 i (by omega) (by omega) (fun e => by have := (hB _ _ e).1; omega)⟩
set_option maxRecDepth 100000 in
set_option maxHeartbeats 4000000 in
theorem historyOf_any (a : Option Addr) (n c : Nat) (ds : List VerD) (w : World) (hn : n ≤ 4096) (hr : VRow w a n ds) (hs : ∀ i (hi : i < ds.length), ds[i].k.size ≤ maxLen) :
    Calls Tryz.prog 26 #[.slice a n c] w fun e w' => ∃ f, e = .returned (.map (some w.heap.size)) ∧ HisAt w' w.heap.size n (w.heap.size + 1) f ds ∧ Below w.heap.size w w' := by
  have hmm := @run_makeMap Tryz.prog
  have L := hide hr.1
  have R := hide hr
  have HS := hide hs
  have H0 := hide (show HisAt (w.alloc (.map #[] 0)) w.heap.size 0 (w.heap.size + 1) (fun _ => .slice none 0 0) [] from
    ⟨hmap_made w, fun k => World.ownsRow_nil _ _ _ _, fun k j h g e => by simp [Value.ownBlock] at e, by omega, fun _ _ => rfl⟩)
  have B0 := hide (show Below w.heap.size w (w.alloc (.map #[] 0)) from (Below.refl _ _).alloc (Nat.le_refl _) _)
  clear hr hs
  go_enter Tryz.func26, Tryz.ntmps26
  go_wp2_with fail
  go_loopw [9] (fun i wr => ∃ (j : Nat) (f : ByteArray → Value), i = .int .i64 (j : Int) ∧ j ≤ n ∧ Hid (HisAt wr w.heap.size j (w.heap.size + 1) f (ds.take j)) ∧ Hid (Below w.heap.size w wr)) (fun i _ => n - (intOf i).toNat)
  case atStart => exact ⟨0, _, rfl, Nat.zero_le _, unhide H0, unhide B0⟩
  case round =>
    clear H0 B0
    obtain ⟨j, f, rfl, hj, hH, hB⟩ := hrel
    by_cases hlt : j < n
    · have hj2 : j < ds.length := by rw [unhide L]; exact hlt
      obtain ⟨b, off, rfl, d0, d1, d2, d3⟩ := ((unhide R).below (unhide hB)).2 j hj2
      have hks := unhide HS j hj2
      have TS := hide (rb_take_snoc ds j hj2)
      have hln : (ds.take j).length ≤ 4096 := by rw [List.length_take]; omega
      have hsr := (unhide hB).size
      have hmw : w.heap.size < wr.heap.size := (unhide hH).map.lt
      generalize ds[j] = pd at *
      obtain ⟨pk, pt, pv, pg⟩ := pd
      simp only at d0 d1 d2 d3 hks
      have B1 : Below wr.heap.size wr (wr.alloc (.cells #[.string pk, .int .i64 pt, .string pv, .bool pg] 39)) := (Below.refl _ _).alloc (Nat.le_refl _) _
      have BX := hide ((unhide hB).trans (B1.mono hsr))
      have HX := hide ((unhide hH).below B1)
      have KX := hide (heap_alloc_new wr (.cells #[.string pk, .int .i64 pt, .string pv, .bool pg] 39))
      have hsx : wr.heap.size + 1 = (wr.alloc (.cells #[.string pk, .int .i64 pt, .string pv, .bool pg] 39)).heap.size := by simp
      have FB : ∀ g, (f pk).ownBlock = some g → g < wr.heap.size := fun g e => (((unhide hH).own pk).lt g e).2
      clear hB hH B1
      go_upto_region 5 with fail
      clear d0 d1 d2 d3
      generalize wr.alloc (.cells #[.string pk, .int .i64 pt, .string pv, .bool pg] 39) = W at *
      generalize wr.heap.size = bx at *
      have SK := hide (show ∀ u, Below w.heap.size w u → u.heap[bx]? = some (.cells #[.string pk, .int .i64 pt, .string pv, .bool pg] 39 (0, 0)) → (fun u => Below w.heap.size w u ∧ u.cell? ⟨bx, 0, none⟩ = some (.string pk) ∧ u.cell? ⟨bx, 1, none⟩ = some (.int .i64 pt) ∧ u.cell? ⟨bx, 2, none⟩ = some (.string pv) ∧ u.cell? ⟨bx, 3, none⟩ = some (.bool pg)) u from fun u hb hk => ⟨hb, (heap_at hk 0).1, (heap_at hk 1).1, (heap_at hk 2).1, (heap_at hk 3).1⟩)
      have HD : HisAt W.drew w.heap.size j (w.heap.size + 1) f (ds.take j) := (unhide HX).below (Below.refl _ _).drew
      have bA : Below W.drew.heap.size W.drew (W.drew.alloc (.cells #[.string pk, .int .i64 pt, .string pv, .bool pg] 39)) := (Below.refl _ _).alloc (Nat.le_refl _) _
      have hWs : w.heap.size ≤ W.drew.heap.size := (unhide BX).size
      have BA := hide ((unhide BX).drew.trans (bA.mono hWs))
      have KA := hide ((bA.block bx (show bx < W.heap.size by omega)).trans (unhide KX))
      have LK := hide (show ∀ u, (u = W.drew ∨ u = W.drew.alloc (.cells #[.string pk, .int .i64 pt, .string pv, .bool pg] 39)) → (Instr.lookup 71 (.map (some w.heap.size)) (.string pk) false).run Tryz.prog u = .ok (f pk) u from fun u hu => by
        rcases hu with rfl | rfl
        · exact HD.map.lookup hks
        · exact (HD.below bA).map.lookup hks)
      have hgl := grp_len (ds.take j) pk
      obtain ⟨v1, w1, hr1, o1, gr1, loc1⟩ := hm_app (d := ⟨pk, pt, pv, pg⟩) (HD.own pk) (by omega) (show w.heap.size + 1 ≤ W.heap.size by omega)
      simp only at hr1 gr1
      obtain ⟨w2, hr2, HN', bb1, bb2, KN⟩ := HD.step ⟨pk, pt, pv, pg⟩ hks (by unfold maxLen; omega) o1 gr1 loc1
      have B1 := hide ((unhide BX).drew.trans bb1)
      have B2 := hide ((unhide BX).drew.trans bb2)
      have kn := KN bx (show bx < W.heap.size by omega) (by omega) (fun e => by have := FB bx e; omega)
      have K1 := hide (kn.1.trans (unhide KX))
      have K2 := hide (kn.2.trans (unhide KX))
      have HN := hide (show HisAt w2 w.heap.size (j + 1) (w.heap.size + 1) (fun x => if x = pk then v1 else f x) (ds.take (j + 1)) by rw [unhide TS]; exact HN')
      simp only at hr2
      clear HN' bb1 bb2 KN kn o1 gr1 loc1 HD bA hgl
      refine wp_region_held_drew (S := (fun u => Below w.heap.size w u ∧ u.cell? ⟨bx, 0, none⟩ = some (.string pk) ∧ u.cell? ⟨bx, 1, none⟩ = some (.int .i64 pt) ∧ u.cell? ⟨bx, 2, none⟩ = some (.string pv) ∧ u.cell? ⟨bx, 3, none⟩ = some (.bool pg))) (by kernel_rfl) (unhide SK _ (unhide BX).drew (unhide KX)) (fun hHeld => ?_)
      refine anyH_take 0 13 (v := ?v1) rfl rfl (by kernel_rfl) (by kernel_rfl) (by kernel_rfl) (fun _ _ _ h => h) (by rfl) ?h1 hHeld ?r1
      case h1 => (intro w hSw; (try dsimp only at hSw); go_simp; try (with_reducible rfl))
      simp only [Act.put, List.setIfInBounds_toArray, List.set_cons_zero, List.set_cons_succ]
      refine anyH_take 1 14 (v := ?v2) rfl rfl (by kernel_rfl) (by kernel_rfl) (by kernel_rfl) (fun _ _ _ h => h) (by rfl) ?h2 hHeld ?r2
      case h2 => (intro w hSw; (try dsimp only at hSw); go_simp; try (with_reducible rfl))
      simp only [Act.put, List.setIfInBounds_toArray, List.set_cons_zero, List.set_cons_succ]
      refine anyH_take 2 15 (v := ?v3) rfl rfl (by kernel_rfl) (by kernel_rfl) (by kernel_rfl) (fun _ _ _ h => h) (by rfl) ?h3 hHeld ?r3
      case h3 => (intro w hSw; (try dsimp only at hSw); go_simp; try (with_reducible rfl))
      simp only [Act.put, List.setIfInBounds_toArray, List.set_cons_zero, List.set_cons_succ]
      refine anyH_take 3 16 (v := ?v4) rfl rfl (by kernel_rfl) (by kernel_rfl) (by kernel_rfl) (fun _ _ _ h => h) (by rfl) ?h4 hHeld ?r4
      case h4 => (intro w hSw; (try dsimp only at hSw); go_simp; try (with_reducible rfl))
      simp only [Act.put, List.setIfInBounds_toArray, List.set_cons_zero, List.set_cons_succ]
      refine anyH_take 4 17 (v := ?v5) rfl rfl (by kernel_rfl) (by kernel_rfl) (by kernel_rfl) (fun _ _ _ h => h) (by rfl) ?h5 hHeld ?r5
      case h5 => (intro w hSw; (try dsimp only at hSw); go_simp; try (with_reducible rfl))
      simp only [Act.put, List.setIfInBounds_toArray, List.set_cons_zero, List.set_cons_succ]
      refine anyH_take 5 18 (v := ?v6) rfl rfl (by kernel_rfl) (by kernel_rfl) (by kernel_rfl) (fun _ _ _ h => h) (by rfl) ?h6 hHeld ?r6
      case h6 => (intro w hSw; (try dsimp only at hSw); go_simp; try (with_reducible rfl))
      simp only [Act.put, List.setIfInBounds_toArray, List.set_cons_zero, List.set_cons_succ]
      refine anyH_take 7 20 (v := ?v7) rfl rfl (by kernel_rfl) (by kernel_rfl) (by kernel_rfl) (fun _ _ _ h => h) (by rfl) ?h7 hHeld ?r7
      case h7 => (intro w hSw; (try dsimp only at hSw); go_simp; try (with_reducible rfl))
      simp only [Act.put, List.setIfInBounds_toArray, List.set_cons_zero, List.set_cons_succ]
      refine wpAnyH_ready (rs := [6, 8]) (by kernel_rfl) (by simp) ?_
      refine AllReadyH.cons rfl (fun K hK => ?_) (AllReadyH.cons rfl (fun K hK => ?_) AllReadyH.nil)
      · refine hm_stepLook rfl (.tmp 16) (.tmp 18) 71 rfl _ _ (f pk) (by first | rfl | (simp [Act.eval]; done) | (simp [Act.eval, Act.put]; done)) (by first | rfl | (simp [Act.eval]; done) | (simp [Act.eval, Act.put]; done)) (unhide LK _ (Or.inl rfl)) ?_
        refine hK.out _ _ (unhide SK _ (unhide BX).drew (unhide KX)) (fun hHeld => ?_)
        clear hK K
        simp only [Act.put, List.setIfInBounds_toArray]
        refine wpAnyH_ready (rs := [8]) (by kernel_rfl) (by simp) ?_
        refine AllReadyH.cons rfl (fun K hK => ?_) AllReadyH.nil
        go_simp
        refine hK.out _ _ (unhide SK _ (unhide BA) (unhide KA)) (fun hHeld => ?_)
        clear hK K
        refine wpAnyH_ready (rs := [9]) (by kernel_rfl) (by simp) ?_
        refine AllReadyH.cons rfl (fun K hK => ?_) AllReadyH.nil
        refine cb_stepApp2 rfl (.tmp 19) (.tmp 21) 23 rfl _ _ v1 w1 (by first | rfl | (simp [Act.eval]; done) | (simp [Act.eval, Act.put]; done)) (by first | rfl | (simp [Act.eval]; done) | (simp [Act.eval, Act.put]; done)) hr1 ?_
        refine hK.out _ _ (unhide SK _ (unhide B1) (unhide K1)) (fun hHeld => ?_)
        clear hK K
        simp only [Act.put, List.setIfInBounds_toArray]
        refine wpAnyH_ready (rs := [10]) (by kernel_rfl) (by simp) ?_
        refine AllReadyH.cons rfl (fun K hK => ?_) AllReadyH.nil
        refine hm_stepUpd rfl (.tmp 13) (.tmp 15) (.tmp 22) 71 rfl _ _ _ w2 (by first | rfl | (simp [Act.eval]; done) | (simp [Act.eval, Act.put]; done)) (by first | rfl | (simp [Act.eval]; done) | (simp [Act.eval, Act.put]; done)) (by first | rfl | (simp [Act.eval]; done) | (simp [Act.eval, Act.put]; done)) hr2 ?_
        refine hK.out _ _ (unhide SK _ (unhide B2) (unhide K2)) (fun hHeld => ?_)
        clear hK K
        refine wpAnyH_done (by kernel_rfl) ?_ _
        go_wp2_with fail
        go_roundw
        case rel => exact ⟨j + 1, _, by go_num, by omega, unhide HN, unhide B2⟩
        case measure => simp [intOf]; omega
      · go_simp
        refine hK.out _ _ (unhide SK _ (unhide BA) (unhide KA)) (fun hHeld => ?_)
        clear hK K
        refine wpAnyH_ready (rs := [6]) (by kernel_rfl) (by simp) ?_
        refine AllReadyH.cons rfl (fun K hK => ?_) AllReadyH.nil
        refine hm_stepLook rfl (.tmp 16) (.tmp 18) 71 rfl _ _ (f pk) (by first | rfl | (simp [Act.eval]; done) | (simp [Act.eval, Act.put]; done)) (by first | rfl | (simp [Act.eval]; done) | (simp [Act.eval, Act.put]; done)) (unhide LK _ (Or.inr rfl)) ?_
        refine hK.out _ _ (unhide SK _ (unhide BA) (unhide KA)) (fun hHeld => ?_)
        clear hK K
        simp only [Act.put]
        refine wpAnyH_ready (rs := [9]) (by kernel_rfl) (by simp) ?_
        refine AllReadyH.cons rfl (fun K hK => ?_) AllReadyH.nil
        refine cb_stepApp2 rfl (.tmp 19) (.tmp 21) 23 rfl _ _ v1 w1 (by first | rfl | (simp [Act.eval]; done) | (simp [Act.eval, Act.put]; done)) (by first | rfl | (simp [Act.eval]; done) | (simp [Act.eval, Act.put]; done)) hr1 ?_
        refine hK.out _ _ (unhide SK _ (unhide B1) (unhide K1)) (fun hHeld => ?_)
        clear hK K
        simp only [Act.put, List.setIfInBounds_toArray]
        refine wpAnyH_ready (rs := [10]) (by kernel_rfl) (by simp) ?_
        refine AllReadyH.cons rfl (fun K hK => ?_) AllReadyH.nil
        refine hm_stepUpd rfl (.tmp 13) (.tmp 15) (.tmp 22) 71 rfl _ _ _ w2 (by first | rfl | (simp [Act.eval]; done) | (simp [Act.eval, Act.put]; done)) (by first | rfl | (simp [Act.eval]; done) | (simp [Act.eval, Act.put]; done)) (by first | rfl | (simp [Act.eval]; done) | (simp [Act.eval, Act.put]; done)) hr2 ?_
        refine hK.out _ _ (unhide SK _ (unhide B2) (unhide K2)) (fun hHeld => ?_)
        clear hK K
        refine wpAnyH_done (by kernel_rfl) ?_ _
        go_wp2_with fail
        go_roundw
        case rel => exact ⟨j + 1, _, by go_num, by omega, unhide HN, unhide B2⟩
        case measure => simp [intOf]; omega
    · obtain rfl : j = n := by omega
      have Z := hide (show HisAt wr w.heap.size j (w.heap.size + 1) f ds by
        have := unhide hH
        rwa [List.take_of_length_le (by rw [unhide L]; exact Nat.le_refl _)] at this)
      go_wp2_with fail
      go_ret
      exact ⟨f, rfl, unhide Z, unhide hB⟩
end Go.Proofs.YtfajenejngddeaaGreat

namespace Go.Proofs.YtfajenejngddeaaGreat
open Go.RowKit

/-- The block does not hold versions. -/
def NoV (w : World) (i : Nat) : Prop := ∀ cur, w.heap[i]? ≠ some (.cells cur 39 (0, 0))
theorem noV_kind {w : World} {i : Nat} {cs : Array Value} {t : TypeId} (h : w.heap[i]? = some (.cells cs t (0, 0))) (ht : 39 ≠ t) : NoV w i := fun cur e => by
  rw [h] at e
  injection e with e
  injection e with _ e _
  exact ht e.symm
theorem HMap.wr {w w' : World} {m N : Nat} {f : ByteArray → Value} (h : HMap w m N f) {P : Nat → Prop} (hw : WrB P w w') (hp : ¬ P m) : HMap w' m N f := h.block (hw.block m h.lt hp)
theorem HisAt.wr {w w' : World} {m N B : Nat} {f : ByteArray → Value} {ds : List VerD} (h : HisAt w m N B f ds) {P : Nat → Prop} (hw : WrB P w w') (hm : ¬ P m) (hp : ∀ i, P i → NoV w i) : HisAt w' m N B f ds :=
  ⟨h.map.wr hw hm, fun k => rr_owns_wr (h.own k) hw (fun i hi hP => by obtain ⟨cur, hc⟩ := own_kind (h.own k) hi; exact hp i hP cur hc), h.far, h.mb, h.no⟩
theorem vrow_wr {w w' : World} {b off n : Nat} {L : List VerD} (h : VRow w (some ⟨b, off, none⟩) n L) {P : Nat → Prop} (hw : WrB P w w') (hp : ¬ P b) : VRow w' (some ⟨b, off, none⟩) n L := by
  refine ⟨h.1, fun i hi => ?_⟩
  obtain ⟨b2, off2, e, d0, d1, d2, d3⟩ := h.2 i hi
  injection e with e
  injection e with e1 e2 _
  subst e1 e2
  have hc : ∀ j v, w.cell? ⟨b, j, none⟩ = some v → w'.cell? ⟨b, j, none⟩ = some v := fun j v hv => (World.cell?_of_block (a := ⟨b, j, none⟩) (hw.block b (cell_lt hv) hp)).trans hv
  exact ⟨b, off, rfl, hc _ _ d0, hc _ _ d1, hc _ _ d2, hc _ _ d3⟩
theorem HMap.ne {w : World} {m N b : Nat} {f : ByteArray → Value} (h : HMap w m N f) {cs : Array Value} {t : TypeId} (hb : w.heap[b]? = some (.cells cs t (0, 0))) : m ≠ b := fun e => by
  obtain ⟨D, ⟨es, clock, h1, _⟩, _⟩ := h
  rw [e, hb] at h1
  cases h1
theorem se_far {w : World} {B b : Nat} {v : Value} {hs : List SeH} (h : SeOwn w B v hs) {cs : Array Value} {t : TypeId} (hb : w.heap[b]? = some (.cells cs t (0, 0))) (h1 : 93 ≠ t) (h2 : 39 ≠ t) : ¬ NBl v (hs.map seEl) b := by
  rintro (hi | ⟨k, a, x, hx, hi⟩)
  · exact own_box h.row hb h1 hi
  · have ho := h.dat k a x hx
    obtain ⟨e, he, hxe⟩ := sbAt_mem hx
    obtain ⟨y, _, rfl⟩ := List.mem_map.1 he
    have : x = _ := List.mem_singleton.1 hxe
    subst this
    exact own_box ho hb h2 hi
theorem grown_wr {w w' : World} {r : Option Nat} (h : w.grownBy w' r) : WrB (fun i => r = some i) w w' := ⟨h.os, h.tape, h.output, h.size, fun i hi hp => h.block i hi (fun e => hp e.symm)⟩
theorem nbl_se {w : World} {B n i : Nat} {v : Value} {hs : List SeH} (h : NOwn w B 93 3 v n (hs.map seEl)) (hi : NBl v (hs.map seEl) i) : ∃ cur T, w.heap[i]? = some (.cells cur T (0, 0)) ∧ (T = 93 ∨ T = 39) := by
  rcases hi with hi | ⟨k, a, x, hx, hi⟩
  · obtain ⟨cur, hc⟩ := own_kind h.row hi
    exact ⟨cur, _, hc, .inl rfl⟩
  · obtain ⟨cur, hc⟩ := own_kind (h.dat k a x hx) hi
    obtain ⟨e, he, hxe⟩ := sbAt_mem hx
    obtain ⟨y, _, rfl⟩ := List.mem_map.1 he
    have : x = _ := List.mem_singleton.1 hxe
    subst this
    exact ⟨cur, _, hc, .inr rfl⟩
end Go.Proofs.YtfajenejngddeaaGreat

namespace Go.Proofs.YtfajenejngddeaaGreat
open Go.RowKit

/-- The blocks of Versions. -/
def VzBl (l f s : Sl) (hs : List SeH) (i : Nat) : Prop := (Value.slice l.a l.n l.c).ownBlock = some i ∨ (Value.slice f.a f.n f.c).ownBlock = some i ∨ NBl (.slice s.a s.n s.c) (hs.map seEl) i
theorem VzOwn.lt {w : World} {B : Nat} {l f s : Sl} {hs : List SeH} {d : VsD} (h : VzOwn w B l f s hs d) (i : Nat) (hi : VzBl l f s hs i) : B ≤ i ∧ i < w.heap.size := by
  rcases hi with hi | hi | hi
  · exact h.vo.lt i hi
  · exact h.fo.lt i hi
  · exact h.so.lt i hi
/-- A row of another kind is no part of the sessions. -/
theorem nbl_so {w : World} {B C n m s t : Nat} {v u : Value} {cs : List Value} {hs : List SeH} (h : NOwn w B 93 3 v n (hs.map seEl)) (ho : w.ownsRow C t s u m cs) (h1 : t ≠ 93) (h2 : t ≠ 39) {i : Nat} (hi : u.ownBlock = some i) : ¬ NBl v (hs.map seEl) i := fun hb => by
  obtain ⟨cur, hc⟩ := own_kind ho hi
  obtain ⟨cur', T, hc', hT⟩ := nbl_se h hb
  rw [hc] at hc'
  injection hc' with hc'
  injection hc' with _ hc' _
  rcases hT with e | e
  · exact h1 (hc'.trans e)
  · exact h2 (hc'.trans e)
theorem nbl_sm {v : Value} {k : Nat} {hs : List SeH} {i : Nat} : NBl v ((seMh k hs).map seEl) i ↔ NBl v (hs.map seEl) i := by
  constructor
  · rintro (h | ⟨j, a, x, hx, hi⟩)
    · exact .inl h
    · right
      unfold sbAt at hx
      rw [List.getElem?_map] at hx
      by_cases hj : j < hs.length
      · rw [mkG_at seCnt seMk k hs j hj] at hx
        match a, hx with
        | 0, hx => injection hx with hx; subst hx; exact ⟨j, 0, _, (show sbAt (hs.map seEl) j 0 = some ⟨39, 4, hs[j].X.ws.length, .slice hs[j].s0.a hs[j].s0.n hs[j].s0.c, vcs hs[j].X.ws⟩ by unfold sbAt; rw [seEl_at hj]; rfl), hi⟩
        | a + 1, hx => cases hx
      · rw [List.getElem?_eq_none (by rw [mkG_len]; omega)] at hx
        cases hx
  · rintro (h | ⟨j, a, x, hx, hi⟩)
    · exact .inl h
    · right
      unfold sbAt at hx
      rw [List.getElem?_map] at hx
      by_cases hj : j < hs.length
      · rw [List.getElem?_eq_getElem hj] at hx
        match a, hx with
        | 0, hx =>
          injection hx with hx
          subst hx
          exact ⟨j, 0, ⟨39, 4, (seMk (kG seCnt k (hs.take j)) hs[j]).X.ws.length, .slice hs[j].s0.a hs[j].s0.n hs[j].s0.c, vcs (seMk (kG seCnt k (hs.take j)) hs[j]).X.ws⟩, (by unfold sbAt; rw [List.getElem?_map, mkG_at seCnt seMk k hs j hj]; rfl), hi⟩
        | a + 1, hx => cases hx
      · rw [List.getElem?_eq_none (by omega)] at hx
        cases hx
/-- How far the marks go. -/
def vzK (k : Nat) (ln fn : Nat) (hs : List SeH) : Nat := kG seCnt (k + 4 * ln + 3 * fn) hs
/-- Versions with marks. -/
def vzMd (k : Nat) (ln fn : Nat) (hs : List SeH) (next : Int) : VsD := ⟨next, markVs k ln, markFs (k + 4 * ln) fn, (seMh (k + 4 * ln + 3 * fn) hs).map (·.X)⟩
set_option maxRecDepth 100000 in
set_option maxHeartbeats 4000000 in
theorem markVersions_any (B k0 : Nat) (next : Int) (l f s : Sl) (hs : List SeH) (d : VsD) (w : World) (hp : 0 < k0) (hk : vzK k0 l.n f.n hs ≤ 9999990) (hO : VzOwn w B l f s hs d) :
    Calls Tryz.prog 18 #[.agg (vzC next l f s), .int .i64 (k0 : Int)] w fun e w' => e = .returned (.int .i64 ((vzK k0 l.n f.n hs : Nat) : Int)) ∧ VzOwn w' B l f s (seMh (k0 + 4 * l.n + 3 * f.n) hs) (vzMd k0 l.n f.n hs d.next) ∧ WrB (VzBl l f s hs) w w' := by
  obtain ⟨la, ln, lc⟩ := l
  obtain ⟨fa, fn, fc⟩ := f
  obtain ⟨sa, sn, sc⟩ := s
  unfold vzC
  simp only at hk ⊢
  obtain ⟨W, hW⟩ : ∃ W, W = w.alloc (.cells #[.int .i64 next, .slice la ln lc, .slice fa fn fc, .slice sa sn sc] 27) := ⟨_, rfl⟩
  have b0 : Below w.heap.size w W := by rw [hW]; exact (Below.refl _ _).alloc (Nat.le_refl _) _
  have kW : W.heap[w.heap.size]? = some (.cells #[.int .i64 next, .slice la ln lc, .slice fa fn fc, .slice sa sn sc] 27 (0, 0)) := by rw [hW]; exact heap_alloc_new _ _
  have O := hO.below b0
  have hln : ln = d.list.length := owns_n hO.vo
  have hfn : fn = d.fen.length := owns_n hO.fo
  have hsn : sn = hs.length := owns_n hO.so.row
  have km := kG_mono seCnt (k0 + 4 * ln + 3 * fn) hs
  unfold vzK at hk
  have APT := hide (show ∀ i, VzBl ⟨la, ln, lc⟩ ⟨fa, fn, fc⟩ ⟨sa, sn, sc⟩ hs i → i < w.heap.size from fun i hi => (hO.lt i hi).2)
  have zW : w.heap.size < W.heap.size := blk_lt kW
  have C1 := hide (markVersionS_any B la ln lc k0 d.list W hp (by omega) O.vo)
  have OO := hide O
  have KW := hide kW
  have WB := hide (show WrB (VzBl ⟨la, ln, lc⟩ ⟨fa, fn, fc⟩ ⟨sa, sn, sc⟩ hs) w W from WrB.of_below b0)
  have c1 := (heap_at kW 1).1
  rw [hW] at c1
  have HSN := hide hsn
  clear hO b0 kW O hln hfn hsn
  go_enter Tryz.func18, Tryz.ntmps18
  go_wp2_with fail
  rw [← hW]
  clear hW c1
  refine (unhide C1).mono ?_
  rintro e w1 ⟨rfl, ho1, hg1⟩
  have W1 := WrB.of_grown hg1
  have F1 := hide (rr_owns_wr (unhide OO).fo W1 (fun i hi => own_other (unhide OO).fo (unhide OO).vo (by decide) hi))
  have S1 := hide (NOwn.keep (unhide OO).so W1 (fun i hi e => (unhide OO).far i e hi))
  have V1 := hide (show VOwns w1 B (.slice la ln lc) (markVs k0 ln) from ho1)
  have K1 := hide ((W1.block w.heap.size zW (fun e => by have := unhide APT _ (.inl e); omega)).trans (unhide KW))
  have WB1 := hide ((unhide WB).seq (W1.weak (fun i e => .inl e)))
  have FAR := hide (unhide OO).far
  clear C1 ho1 hg1 W1 OO KW WB
  have c2 := (heap_at (unhide K1) 2).1
  obtain ⟨k1, hk1⟩ : ∃ k1, k1 = k0 + 4 * ln := ⟨_, rfl⟩
  rw [← hk1] at hk km ⊢
  have C2 := hide (markFenceS_any B fa fn fc k1 d.fen w1 (by omega) (by omega) (unhide F1))
  have HK1 := hide hk1
  have hk1p : 0 < k1 := by omega
  clear hk1
  go_wp2_with fail
  refine (unhide C2).mono ?_
  rintro e w2 ⟨rfl, ho2, hg2⟩
  have W2 := WrB.of_grown hg2
  have V2 := hide (rr_owns_wr (unhide V1) W2 (fun i hi => own_other (unhide V1) (unhide F1) (by decide) hi))
  have S2 := hide (NOwn.keep (unhide S1) W2 (fun i hi e => nbl_so (unhide S1) (unhide F1) (by decide) (by decide) e hi))
  have F2 := hide (show FOwns w2 B (.slice fa fn fc) (markFs k1 fn) from ho2)
  have K2 := hide ((W2.block w.heap.size (by have := (blk_lt (unhide K1)); omega) (fun e => by have := unhide APT _ (.inr (.inl e)); omega)).trans (unhide K1))
  have WB2 := hide ((unhide WB1).seq (W2.weak (fun i e => .inr (.inl e))))
  clear C2 ho2 hg2 W2 V1 F1 S1 K1 WB1 c2
  have c3 := (heap_at (unhide K2) 3).1
  obtain ⟨k2, hk2⟩ : ∃ k2, k2 = k1 + 3 * fn := ⟨_, rfl⟩
  rw [← hk2] at hk km ⊢
  have hk2p : 0 < k2 := by omega
  have HK2 := hide hk2
  have S2' := unhide S2
  unfold SeOwn at S2'
  rw [← unhide HSN] at S2'
  have C3 := hide (markSessionS_any B sa sn sc k2 hs w2 hk2p hk S2')
  have S2h := hide S2'
  clear hk2 S2' S2
  go_wp2_with fail
  refine (unhide C3).mono ?_
  rintro e w3 ⟨rfl, ho3, hw3⟩
  have V3 := hide (rr_owns_wr (unhide V2) hw3 (fun i hi hn => unhide FAR i hi hn))
  have F3 := hide (rr_owns_wr (unhide F2) hw3 (fun i hi hn => nbl_so (unhide S2h) (unhide F2) (by decide) (by decide) hi hn))
  have WB3 := hide ((unhide WB2).seq (hw3.weak (fun i e => .inr (.inr e))))
  have E := hide (show kG seCnt k2 hs = vzK k0 ln fn hs by unfold vzK; rw [unhide HK2, unhide HK1])
  have RES := hide (show VzOwn w3 B ⟨la, ln, lc⟩ ⟨fa, fn, fc⟩ ⟨sa, sn, sc⟩ (seMh k2 hs) (vzMd k0 ln fn hs d.next) from ⟨unhide V3, by
      show FOwns w3 B (.slice fa fn fc) (markFs (k0 + 4 * ln) fn)
      rw [← unhide HK1]
      exact unhide F3, by
      show NOwn w3 B 93 3 (.slice sa sn sc) (seMh k2 hs).length ((seMh k2 hs).map seEl)
      rw [mkG_len, ← unhide HSN]
      exact ho3, by
      show (seMh k2 hs).map (·.X) = (seMh (k0 + 4 * ln + 3 * fn) hs).map (·.X)
      rw [unhide HK2, unhide HK1], fun i hi hn => unhide FAR i hi (nbl_sm.1 hn)⟩)
  clear C3 ho3 hw3 V2 F2 S2h K2 WB2 c3
  go_wp2_with fail
  go_ret
  exact ⟨ret_int (by rw [unhide E]), by have h := unhide RES; rw [unhide HK2, unhide HK1] at h; exact h, unhide WB3⟩
set_option maxRecDepth 100000 in
set_option maxHeartbeats 4000000 in
theorem heldVersions_any (k0 : Nat) (next : Int) (l f s : Sl) (hs : List SeH) (w : World) (hp : 0 < k0) (hk : vzK k0 l.n f.n hs ≤ 9999990) (hv : VRow w l.a l.n (markVs k0 l.n)) (hf : FRow w f.a f.n (markFs (k0 + 4 * l.n) f.n)) (hs1 : SeIn w (.slice s.a s.n s.c) s.n (seMh (k0 + 4 * l.n + 3 * f.n) hs)) :
    Calls Tryz.prog 19 #[.agg (vzC next l f s), .int .i64 (k0 : Int)] w fun e w' => e = .returned (.int .i64 ((vzK k0 l.n f.n hs : Nat) : Int)) ∧ Below w.heap.size w w' := by
  obtain ⟨la, ln, lc⟩ := l
  obtain ⟨fa, fn, fc⟩ := f
  obtain ⟨sa, sn, sc⟩ := s
  unfold vzC
  simp only at hk hv hf hs1 ⊢
  obtain ⟨W, hW⟩ : ∃ W, W = w.alloc (.cells #[.int .i64 next, .slice la ln lc, .slice fa fn fc, .slice sa sn sc] 27) := ⟨_, rfl⟩
  have b0 : Below w.heap.size w W := by rw [hW]; exact (Below.refl _ _).alloc (Nat.le_refl _) _
  have kW : W.heap[w.heap.size]? = some (.cells #[.int .i64 next, .slice la ln lc, .slice fa fn fc, .slice sa sn sc] 27 (0, 0)) := by rw [hW]; exact heap_alloc_new _ _
  have km := kG_mono seCnt (k0 + 4 * ln + 3 * fn) hs
  unfold vzK at hk
  have C1 := hide (heldVersionS_any la ln lc k0 W hp (by omega) (hv.below b0))
  have HF := hide (hf.below b0)
  have HS := hide (hs1.below b0)
  have KW := hide kW
  have B0 := hide b0
  have c1 := (heap_at kW 1).1
  rw [hW] at c1
  clear hv hf hs1 b0 kW
  go_enter Tryz.func19, Tryz.ntmps19
  go_wp2_with fail
  rw [← hW]
  clear hW c1
  refine (unhide C1).mono ?_
  rintro e w1 ⟨rfl, hb1⟩
  have K1 := hide ((hb1.block w.heap.size (blk_lt (unhide KW))).trans (unhide KW))
  have B1 := hide ((unhide B0).trans (hb1.mono (unhide B0).size))
  have F1 := hide ((unhide HF).below hb1)
  have S1 := hide ((unhide HS).below hb1)
  obtain ⟨k1, hk1⟩ : ∃ k1, k1 = k0 + 4 * ln := ⟨_, rfl⟩
  rw [← hk1] at hk km F1 S1 ⊢
  have C2 := hide (heldFenceS_any fa fn fc k1 w1 (by omega) (by omega) (unhide F1))
  have HK1 := hide hk1
  have n1 : ¬ ((k1 : Int) < 0) := by omega
  have c2 := (heap_at (unhide K1) 2).1
  have hk1p : 0 < k1 := by omega
  clear C1 hb1 HF HS KW B0 hk1
  go_wp2_with fail
  refine (unhide C2).mono ?_
  rintro e w2 ⟨rfl, hb2⟩
  have K2 := hide ((hb2.block w.heap.size (blk_lt (unhide K1))).trans (unhide K1))
  have B2 := hide ((unhide B1).trans (hb2.mono (unhide B1).size))
  have S2 := hide ((unhide S1).below hb2)
  obtain ⟨k2, hk2⟩ : ∃ k2, k2 = k1 + 3 * fn := ⟨_, rfl⟩
  rw [← hk2] at hk km S2 ⊢
  have C3 := hide (heldSessionS_any sa sn sc k2 hs w2 (by omega) hk (unhide S2))
  have HK2 := hide hk2
  have n2 : ¬ ((k2 : Int) < 0) := by omega
  have c3 := (heap_at (unhide K2) 3).1
  clear C2 hb2 F1 S1 K1 B1 hk2 c2 n1
  go_wp2_with fail
  refine (unhide C3).mono ?_
  rintro e w3 ⟨rfl, hb3⟩
  have B3 := hide ((unhide B2).trans (hb3.mono (unhide B2).size))
  have E := hide (show kG seCnt k2 hs = vzK k0 ln fn hs by unfold vzK; rw [unhide HK2, unhide HK1])
  have n3 : ¬ (((kG seCnt k2 hs : Nat) : Int) < 0) := by omega
  clear C3 hb3 S2 K2 B2 c3 n2
  go_wp2_with fail
  go_ret
  exact ⟨ret_int (by rw [unhide E]), unhide B3⟩
end Go.Proofs.YtfajenejngddeaaGreat

namespace Go.Proofs.YtfajenejngddeaaGreat
open Go.RowKit

theorem prL_few (d : VsD) (t : Int) : vsN (prV d t) ≤ vsN d := by
  unfold prV
  split
  · unfold vsN
    have h1 : (prL d.list t).length ≤ d.list.length := prTo_len d.list t _
    have h2 : (prF d.fen (leastV d)).length ≤ d.fen.length := List.length_filter_le _ _
    simp only
    omega
  · exact Nat.zero_le _
theorem VzOwn.off {P : Nat → Prop} {w w' : World} {B : Nat} {l f s : Sl} {hs : List SeH} {d : VsD} (h : VzOwn w B l f s hs d) (hw : WrB P w w') (hp : ∀ i, VzBl l f s hs i → ¬ P i) : VzOwn w' B l f s hs d :=
  h.apart hw (fun i hi => hp i (.inl hi)) (fun i hi => hp i (.inr (.inl hi))) (fun i hi => hp i (.inr (.inr hi)))
theorem eqVersZ (next : Int) (l1 f1 s1 : Sl) (hs1 : List SeH) (l2 f2 s2 : Sl) (hs2 : List SeH) (d : VsD) (w : World) (h1 : VzIn w l1 f1 s1 hs1 d) (h2 : VzIn w l2 f2 s2 hs2 d) (hd : vsN d ≤ 1048576) :
    Calls Tryz.prog 17 #[.agg (vzC next l1 f1 s1), .agg (vzC next l2 f2 s2)] w fun e w' => e = .returned (.bool true) ∧ Below w.heap.size w w' :=
  eqVersions_any next l1 f1 s1 l2 f2 s2 _ _ d w (vs_of_vz h1) (vs_of_vz h2) (vsfew_of h1 hd)
theorem sum_cnt (hs : List SeH) : (hs.map seCnt).sum = 2 * hs.length + 4 * ((hs.map (·.X)).map (fun s => s.ws.length)).sum := by
  induction hs with
  | nil => rfl
  | cons x r ih =>
    simp only [List.map_cons, List.sum_cons, List.length_cons]
    rw [ih]
    unfold seCnt
    omega
theorem vzK_le {w : World} {l f s : Sl} {hs : List SeH} {d : VsD} (h : VzIn w l f s hs d) (hd : vsN d ≤ 1048576) : vzK 1 l.n f.n hs ≤ 9999990 := by
  unfold vzK
  rw [kG_sum, sum_cnt, h.ss]
  have e1 := h.vr.1
  have e2 := h.fr.1
  have e3 := h.len
  unfold vsN at hd
  omega
theorem heldVersZ {w : World} {B : Nat} {l f s : Sl} {hs : List SeH} {nx : Int} (next : Int) (h : VzOwn w B l f s (seMh (1 + 4 * l.n + 3 * f.n) hs) (vzMd 1 l.n f.n hs nx)) (hk : vzK 1 l.n f.n hs ≤ 9999990) :
    Calls Tryz.prog 19 #[.agg (vzC next l f s), .int .i64 1] w fun e w' => e = .returned (.int .i64 ((vzK 1 l.n f.n hs : Nat) : Int)) ∧ Below w.heap.size w w' :=
  heldVersions_any 1 next l f s hs w (by omega) hk h.reads.vr h.reads.fr h.reads.sr
theorem bel_od {B : Nat} {w w' : World} (h : Below B w.drew w') : Below B w w' := ⟨h.os, h.tape, h.output, h.size, h.block⟩
end Go.Proofs.YtfajenejngddeaaGreat

namespace Go.Proofs.YtfajenejngddeaaGreat
open Go.RowKit

theorem ok_top {d : VsD} (h : topK d = false) : false = okVsD d := by unfold okVsD; rw [h]; rfl
theorem top_yes {d : VsD} (h1 : 1 ≤ d.next) (h2 : d.next ≤ 1000) (h3 : d.list.length ≤ 4096) (h4 : d.fen.length ≤ 4096) (h5 : d.ses.length = 4) : topK d = true := decide_eq_true ⟨h1, h2, h3, h4, h5⟩
theorem top_no {d : VsD} (h : ¬ (1 ≤ d.next ∧ d.next ≤ 1000 ∧ d.list.length ≤ 4096 ∧ d.fen.length ≤ 4096 ∧ d.ses.length = 4)) : topK d = false := decide_eq_false h
theorem step_all {α : Type} {p : α → Bool} {l : List α} {k : Nat} (hk : k < l.length) (h : ∀ i (hi : i < l.length), i < k → p l[i] = true) (hp : p l[k] = true) : ∀ i (hi : i < l.length), i < k + 1 → p l[i] = true := fun i hi hik => by
  by_cases e : i < k
  · exact h i hi e
  · obtain rfl : i = k := by omega
    exact hp
set_option maxRecDepth 100000 in
set_option maxHeartbeats 8000000 in
theorem implVersionsOK_any (l f s : Sl) (rs : List SesR) (d : VsD) (w : World) (h : VsAt w l f s rs d) (hf : VsFew l f s rs) :
    Calls Tryz.prog 32 #[vsv d.next l f s] w fun e w' => e = .returned (.bool (okVsD d)) ∧ Below w.heap.size w w' := by
  obtain ⟨la, ln, lc⟩ := l
  obtain ⟨fa, fn, fc⟩ := f
  obtain ⟨sa, sn, sc⟩ := s
  have hmf : ∀ (fn : Fn) (first cap : Array Value) (w : World), (Instr.makeFunc fn first cap).run Tryz.prog w = .ok (.func fn first cap) w := fun _ _ _ _ => rfl
  have H := hide h
  have HF := hide hf
  have e1 : d.list.length = ln := h.v.1
  have e2 : d.fen.length = fn := h.f.1
  have e3 : d.ses.length = sn := h.ss.1.symm.trans h.s.1
  have TN := hide (fun (hx : ¬ (1 ≤ d.next ∧ d.next ≤ 1000 ∧ ln ≤ 4096 ∧ fn ≤ 4096 ∧ sn = 4)) => ok_top (top_no (by rw [e1, e2, e3]; exact hx)))
  have TY := hide (fun (h1 : 1 ≤ d.next) (h2 : d.next ≤ 1000) (h3 : ln ≤ 4096) (h4 : fn ≤ 4096) (h5 : sn = 4) => show okVsD d = (okVs d.list && (lateK d.list d.next && (d.fen.all (fenK d.next) && d.ses.all (sesK d.next)))) by
    unfold okVsD
    rw [top_yes h1 h2 (by rw [e1]; exact h3) (by rw [e2]; exact h4) (by rw [e3]; exact h5)]
    rfl)
  have EQ := hide (And.intro e1 (And.intro e2 e3))
  clear h hf e1 e2 e3
  have b0 : Below w.heap.size w (w.alloc (.cells #[.int .i64 d.next, .slice la ln lc, .slice fa fn fc, .slice sa sn sc] 27)) := (Below.refl _ _).alloc (Nat.le_refl _) _
  have k0 := heap_alloc_new w (.cells #[.int .i64 d.next, .slice la ln lc, .slice fa fn fc, .slice sa sn sc] 27)
  have K := hide k0
  clear k0
  unfold vsv
  simp only
  by_cases h1 : 1 ≤ d.next
  case neg =>
    have Z := hide (unhide TN (by omega))
    have g1 : d.next < 1 := by omega
    generalize d.next = nx at *
    clear TY TN H HF EQ
    go_enter Tryz.func32, Tryz.ntmps32
    go_wp2_with fail
    go_ret
    exact ⟨ret_bool (unhide Z), b0⟩
  by_cases h2 : d.next ≤ 1000
  case neg =>
    have Z := hide (unhide TN (by omega))
    have g1 : ¬ d.next < 1 := by omega
    have g2 : 1000 < d.next := by omega
    generalize d.next = nx at *
    clear TY TN H HF EQ
    go_enter Tryz.func32, Tryz.ntmps32
    go_wp2_with fail
    go_ret
    exact ⟨ret_bool (unhide Z), b0⟩
  by_cases h3 : ln ≤ 4096
  case neg =>
    have Z := hide (unhide TN (by omega))
    have g1 : ¬ d.next < 1 := by omega
    have g2 : ¬ 1000 < d.next := by omega
    have g3 : (4096 : Int) < (ln : Int) := by omega
    generalize d.next = nx at *
    clear TY TN H HF EQ
    go_enter Tryz.func32, Tryz.ntmps32
    go_wp2_with fail
    go_ret
    exact ⟨ret_bool (unhide Z), b0⟩
  by_cases h4 : fn ≤ 4096
  case neg =>
    have Z := hide (unhide TN (by omega))
    have g1 : ¬ d.next < 1 := by omega
    have g2 : ¬ 1000 < d.next := by omega
    have g3 : ¬ (4096 : Int) < (ln : Int) := by omega
    have g4 : (4096 : Int) < (fn : Int) := by omega
    generalize d.next = nx at *
    clear TY TN H HF EQ
    go_enter Tryz.func32, Tryz.ntmps32
    go_wp2_with fail
    go_ret
    exact ⟨ret_bool (unhide Z), b0⟩
  by_cases h5 : sn = 4
  case neg =>
    have Z := hide (unhide TN (by omega))
    have g1 : ¬ d.next < 1 := by omega
    have g2 : ¬ 1000 < d.next := by omega
    have g3 : ¬ (4096 : Int) < (ln : Int) := by omega
    have g4 : ¬ (4096 : Int) < (fn : Int) := by omega
    have g5 : ((sn : Int) != 4) = true := by simp [bne]; omega
    generalize d.next = nx at *
    clear TY TN H HF EQ
    go_enter Tryz.func32, Tryz.ntmps32
    go_wp2_with fail
    go_ret
    exact ⟨ret_bool (unhide Z), b0⟩
  subst h5
  have E := hide (unhide TY h1 h2 h3 h4 rfl)
  have g1 : ¬ d.next < 1 := by omega
  have g2 : ¬ 1000 < d.next := by omega
  have g3 : ¬ (4096 : Int) < (ln : Int) := by omega
  have g4 : ¬ (4096 : Int) < (fn : Int) := by omega
  clear TY TN h1 h2
  obtain ⟨nx, hnx⟩ : ∃ nx, nx = d.next := ⟨_, rfl⟩
  rw [← hnx] at g1 g2 b0 K E ⊢
  have HNX := hide hnx
  clear hnx
  go_enter Tryz.func32, Tryz.ntmps32
  go_wp2_with fail
  generalize w.alloc (.cells #[.int .i64 nx, .slice la ln lc, .slice fa fn fc, .slice sa 4 sc] 27) = W at *
  generalize hbx : w.heap.size = bx at *
  clear g1 g2 g3 g4
  refine (listOK_any la ln lc d.list W (by omega) ((by subst hbx; exact (unhide H).below b0 : VsAt W ⟨la, ln, lc⟩ ⟨fa, fn, fc⟩ ⟨sa, 4, sc⟩ rs d)).v).mono ?_
  rintro e w1 ⟨rfl, hb⟩
  replace K := hide ((hb.block bx (Array.getElem?_eq_some_iff.1 (unhide K)).1).trans (unhide K))
  replace b0 := b0.trans (hb.mono (by subst hbx; exact b0.size))
  clear hb
  have HH := hide (show ∀ u, Below bx w u → VsAt u ⟨la, ln, lc⟩ ⟨fa, fn, fc⟩ ⟨sa, 4, sc⟩ rs d from fun u hu => by subst hbx; exact (unhide H).below hu)
  have hbs : bx ≤ w1.heap.size := by subst hbx; exact b0.size
  generalize okVs d.list = ok1 at *
  cases ok1
  · have Z := hide (show false = okVsD d by rw [unhide E]; rfl)
    have c1 : w1.cell? ⟨bx, 1, none⟩ = some (.slice la ln lc) := (heap_at (unhide K) 1).1
    go_wp2_with fail
    go_ret
    exact ⟨ret_bool (unhide Z), by subst hbx; exact b0⟩
  have c0 : w1.cell? ⟨bx, 0, none⟩ = some (.int .i64 nx) := (heap_at (unhide K) 0).1
  have c1 : w1.cell? ⟨bx, 1, none⟩ = some (.slice la ln lc) := (heap_at (unhide K) 1).1
  have CL := hide (containsLate_any bx la ln lc d.list nx w1 (by omega) (unhide HH w1 b0).v c0)
  replace E := hide (show okVsD d = (lateK d.list nx && (d.fen.all (fenK nx) && d.ses.all (sesK nx))) by rw [unhide E]; rfl)
  clear c0
  go_wp2_with fail
  refine (unhide CL).mono ?_
  rintro e w2 ⟨rfl, hb⟩
  replace K := hide ((hb.block bx (Array.getElem?_eq_some_iff.1 (unhide K)).1).trans (unhide K))
  replace b0 := b0.trans (hb.mono hbs)
  replace hbs := Nat.le_trans hbs hb.size
  clear hb CL c1
  generalize lateK d.list nx = ok2 at *
  cases ok2
  · have Z := hide (show false = okVsD d by rw [unhide E]; rfl)
    go_wp2_with fail
    go_ret
    exact ⟨ret_bool (unhide Z), by subst hbx; exact b0⟩
  replace E := hide (show okVsD d = (d.fen.all (fenK nx) && d.ses.all (sesK nx)) by rw [unhide E]; rfl)
  have c2 : w2.cell? ⟨bx, 2, none⟩ = some (.slice fa fn fc) := (heap_at (unhide K) 2).1
  go_wp2_with fail
  clear c2
  go_loopw [48] (fun i wr => ∃ k : Nat, k ≤ fn ∧ i = .int .i64 k ∧ Hid (∀ i (hi : i < d.fen.length), i < k → fenK nx d.fen[i] = true) ∧ Hid (Below bx w wr) ∧ Hid (wr.heap[bx]? = some (.cells #[.int .i64 nx, .slice la ln lc, .slice fa fn fc, .slice sa 4 sc] 27 (0, 0))) ∧ bx ≤ wr.heap.size) (fun i _ => fn - (intOf i).toNat)
  case atStart => exact ⟨0, Nat.zero_le _, rfl, (fun i _ hi => absurd hi (Nat.not_lt_zero _)), b0, unhide K, hbs⟩
  case round =>
    clear b0 K hbs
    obtain ⟨k, hk, rfl, hA, hB, hK, hbs⟩ := hrel
    by_cases hlt : k < fn
    · have hk2 : k < d.fen.length := by rw [(unhide EQ).2.1]; exact hlt
      obtain ⟨b, off, rfl, d0, d1, d2⟩ := (unhide HH _ (unhide hB)).f.2 k hk2
      have C := hide (fenceOK_any d.fen[k] nx)
      have FZ := hide (fun (hf : fenK nx d.fen[k] = false) => show false = okVsD d by rw [unhide E, all_false hk2 hf]; rfl)
      have FY := hide (step_all (p := fenK nx) hk2 (unhide hA))
      generalize fenK nx d.fen[k] = fk at *
      generalize d.fen[k] = pd at *
      obtain ⟨pf, pu, pt⟩ := pd
      unfold fv at C
      simp only at d0 d1 d2 C
      have B1 : Below wr.heap.size wr (wr.alloc (.cells #[.string pf, .string pu, .int .i64 pt] 90)) := (Below.refl _ _).alloc (Nat.le_refl _) _
      have K1 := hide ((B1.block bx (Array.getElem?_eq_some_iff.1 (unhide hK)).1).trans (unhide hK))
      have B2 := hide ((unhide hB).trans (B1.mono hbs))
      have hs2 := Nat.le_trans hbs B1.size
      have x0 : (wr.alloc (.cells #[.string pf, .string pu, .int .i64 pt] 90)).cell? ⟨bx, 0, none⟩ = some (.int .i64 nx) := (heap_at (unhide K1) 0).1
      clear B1 hB hK hA
      go_wp2_with fail
      generalize wr.alloc (.cells #[.string pf, .string pu, .int .i64 pt] 90) = W2 at *
      refine (unhide C W2).mono ?_
      rintro e w3 ⟨rfl, hb⟩
      have K3 := hide ((hb.block bx (Array.getElem?_eq_some_iff.1 (unhide K1)).1).trans (unhide K1))
      have B3 := hide ((unhide B2).trans (hb.mono hs2))
      have hs3 := Nat.le_trans hs2 hb.size
      clear hb d0 d1 d2 x0 C K1 B2 hs2
      cases fk
      · have Z := hide (unhide FZ rfl)
        clear FZ FY
        go_wp2_with fail
        go_ret
        exact ⟨ret_bool (unhide Z), by subst hbx; exact unhide B3⟩
      · have Z := hide (unhide FY rfl)
        clear FZ FY
        go_wp2_with fail
        go_roundw
        case rel => exact ⟨k + 1, by omega, by go_num, unhide Z, unhide B3, unhide K3, hs3⟩
        case measure => simp [intOf]; omega
    · obtain rfl : k = fn := by omega
      have E' := hide (show okVsD d = d.ses.all (sesK nx) by
        rw [unhide E, all_true fun i hi => unhide hA i hi (by have := (unhide EQ).2.1; omega)]; rfl)
      have c3 : wr.cell? ⟨bx, 3, none⟩ = some (.slice sa 4 sc) := (heap_at (unhide hK) 3).1
      clear hA E
      go_wp2_with fail
      clear c3
      go_loopw [61] (fun i wr => ∃ k : Nat, k ≤ 4 ∧ i = .int .i64 k ∧ Hid (∀ i (hi : i < d.ses.length), i < k → sesK nx d.ses[i] = true) ∧ Hid (Below bx w wr) ∧ Hid (∃ f0 fn' fc', wr.heap[bx]? = some (.cells #[.int .i64 nx, .slice la ln lc, .slice f0 fn' fc', .slice sa 4 sc] 27 (0, 0))) ∧ bx ≤ wr.heap.size) (fun i _ => 4 - (intOf i).toNat)
      case atStart => exact ⟨0, Nat.zero_le _, rfl, (fun i _ hi => absurd hi (Nat.not_lt_zero _)), unhide hB, ⟨_, _, _, unhide hK⟩, hbs⟩
      case round =>
        clear hB hK hbs
        obtain ⟨j, hj, rfl, hA, hB, hK, hbs⟩ := hrel
        by_cases hlt2 : j < 4
        · have hj2 : j < d.ses.length := by rw [(unhide EQ).2.2]; exact hlt2
          have hj3 : j < rs.length := by rw [(unhide HH _ (unhide hB)).ss.1]; exact hj2
          obtain ⟨b, off, rfl, d0, d1, d2⟩ := (unhide HH _ (unhide hB)).s.2 j hj3
          obtain ⟨f0, fn', fc', hK⟩ := unhide hK
          have C := hide (show ∀ u, Below bx w u → Calls Tryz.prog 78 #[sv rs[j], .int .i64 nx] u fun e w' => e = .returned (.bool (sesK nx d.ses[j])) ∧ Below u.heap.size u w' from fun u hu => by
            obtain ⟨p1, p2, p3⟩ := (unhide HH u hu).ss.2 j hj3 hj2
            exact sessionOK_any rs[j] d.ses[j] nx u p1 p2 p3 ((unhide HF).w j hj3))
          have FZ := hide (fun (hf : sesK nx d.ses[j] = false) => show false = okVsD d by rw [unhide E', all_false hj2 hf])
          have FY := hide (step_all (p := sesK nx) hj2 (unhide hA))
          generalize sesK nx d.ses[j] = fk at *
          generalize rs[j] = pd at *
          obtain ⟨po, pt, pa, pn, pc⟩ := pd
          unfold sv at C
          simp only at d0 d1 d2 C
          have B1 : Below wr.heap.size wr (wr.alloc (.cells #[.bool po, .int .i64 pt, .slice pa pn pc] 93)) := (Below.refl _ _).alloc (Nat.le_refl _) _
          have K1 := hide ((B1.block bx (Array.getElem?_eq_some_iff.1 hK).1).trans hK)
          have B2 := hide ((unhide hB).trans (B1.mono hbs))
          have hs2 := Nat.le_trans hbs B1.size
          have x0 : (wr.alloc (.cells #[.bool po, .int .i64 pt, .slice pa pn pc] 93)).cell? ⟨bx, 0, none⟩ = some (.int .i64 nx) := (heap_at (unhide K1) 0).1
          clear B1 hB hK hA
          go_wp2_with fail
          generalize wr.alloc (.cells #[.bool po, .int .i64 pt, .slice pa pn pc] 93) = W2 at *
          refine (unhide C W2 (unhide B2)).mono ?_
          rintro e w3 ⟨rfl, hb⟩
          have K3 := hide ((hb.block bx (Array.getElem?_eq_some_iff.1 (unhide K1)).1).trans (unhide K1))
          have B3 := hide ((unhide B2).trans (hb.mono hs2))
          have hs3 := Nat.le_trans hs2 hb.size
          clear hb d0 d1 d2 x0 C K1 B2 hs2
          cases fk
          · have Z := hide (unhide FZ rfl)
            clear FZ FY
            go_wp2_with fail
            go_ret
            exact ⟨ret_bool (unhide Z), by subst hbx; exact unhide B3⟩
          · have Z := hide (unhide FY rfl)
            clear FZ FY
            go_wp2_with fail
            go_roundw
            case rel => exact ⟨j + 1, by omega, by go_num, unhide Z, unhide B3, ⟨_, _, _, unhide K3⟩, hs3⟩
            case measure => simp [intOf]; omega
        · obtain rfl : j = 4 := by omega
          have Z := hide (show true = okVsD d by rw [unhide E', all_true fun i hi => unhide hA i hi (by have := (unhide EQ).2.2; omega)])
          go_wp2_with fail
          go_ret
          exact ⟨ret_bool (unhide Z), by subst hbx; exact unhide hB⟩
end Go.Proofs.YtfajenejngddeaaGreat

namespace Go.Proofs.YtfajenejngddeaaGreat
open Go.RowKit

theorem okVs_lt {ds : List VerD} (h : okVs ds = true) {k : Nat} (hk : k < ds.length) (hp : 0 < k) : ltV (ds[k - 1]'(by omega)) ds[k] = true := by
  obtain ⟨j, rfl⟩ : ∃ j, k = j + 1 := ⟨k - 1, by omega⟩
  have := okVs_at h hk
  rw [okAtV_succ hk, Bool.and_eq_true] at this
  exact this.2
end Go.Proofs.YtfajenejngddeaaGreat

namespace Go.Proofs.YtfajenejngddeaaGreat
open Go.RowKit

/-- A session is right as the specification says it. -/
theorem ses_long {next : Int} {s : SesD} (h : ¬ s.ws.length ≤ 8) : sesK next s = false := by
  unfold sesK
  split
  · unfold wrV; rw [decide_eq_false h]; simp
  · rw [decide_eq_false (show ¬ s.ws.length = 0 by omega)]; simp
theorem ses_shut {next : Int} {s : SesD} (ho : s.o = false) : sesK next s = (decide (s.t = 0) && decide (s.ws.length = 0)) := by unfold sesK; rw [if_neg (by rw [ho]; decide)]
theorem ses_open {next : Int} {s : SesD} (ho : s.o = true) (hl : s.ws.length ≤ 8) : sesK next s = (decide (1 ≤ s.t) && decide (s.t ≤ next - 1) && (okVs s.ws && oneT s.ws s.t)) := by
  unfold sesK wrV
  rw [if_pos ho, decide_eq_true hl]
  have : decide (s.t < next) = decide (s.t ≤ next - 1) := by rw [decide_eq_decide]; omega
  rw [this]
  cases decide (1 ≤ s.t) <;> cases decide (s.t ≤ next - 1) <;> simp
theorem fen_in {next : Int} {f : FenD} (h1 : f.f.size ≤ 40) (h2 : f.u.size ≤ 41) : fenK next f = (decide (1 ≤ f.t) && decide (f.t ≤ next - 1)) := by
  unfold fenK
  have : decide (f.t < next) = decide (f.t ≤ next - 1) := by rw [decide_eq_decide]; omega
  rw [decide_eq_true h1, decide_eq_true h2, this]
  rfl
set_option maxRecDepth 100000 in
set_option maxHeartbeats 8000000 in
theorem specVersionsOK_any (l f s : Sl) (rs : List SesR) (d : VsD) (w : World) (h : VsAt w l f s rs d) (hf : VsFew l f s rs) :
    Calls Tryz.prog 39 #[vsv d.next l f s] w fun e w' => e = .returned (.bool (okVsD d)) ∧ Below w.heap.size w w' := by
  obtain ⟨la, ln, lc⟩ := l
  obtain ⟨fa, fn, fc⟩ := f
  obtain ⟨sa, sn, sc⟩ := s
  have H := hide h
  have HF := hide hf
  have e1 : d.list.length = ln := h.v.1
  have e2 : d.fen.length = fn := h.f.1
  have e3 : d.ses.length = sn := h.ss.1.symm.trans h.s.1
  have TN := hide (fun (hx : ¬ (1 ≤ d.next ∧ d.next ≤ 1000 ∧ ln ≤ 4096 ∧ fn ≤ 4096 ∧ sn = 4)) => ok_top (top_no (by rw [e1, e2, e3]; exact hx)))
  have TY := hide (fun (h1 : 1 ≤ d.next) (h2 : d.next ≤ 1000) (h3 : ln ≤ 4096) (h4 : fn ≤ 4096) (h5 : sn = 4) => show okVsD d = (okVs d.list && (lateK d.list d.next && (d.fen.all (fenK d.next) && d.ses.all (sesK d.next)))) by
    unfold okVsD
    rw [top_yes h1 h2 (by rw [e1]; exact h3) (by rw [e2]; exact h4) (by rw [e3]; exact h5)]
    rfl)
  have EQ := hide (And.intro e1 (And.intro e2 e3))
  clear h hf e1 e2 e3
  have b0 : Below w.heap.size w (w.alloc (.cells #[.int .i64 d.next, .slice la ln lc, .slice fa fn fc, .slice sa sn sc] 27)) := (Below.refl _ _).alloc (Nat.le_refl _) _
  have k0 := heap_alloc_new w (.cells #[.int .i64 d.next, .slice la ln lc, .slice fa fn fc, .slice sa sn sc] 27)
  have K := hide k0
  clear k0
  unfold vsv
  simp only
  have SI := hide (vs_l01In d.next 1 1000)
  by_cases h1 : 1 ≤ d.next ∧ d.next ≤ 1000
  case neg =>
    have Z := hide (unhide TN (by omega))
    have hb1 : (decide (1 ≤ d.next) && decide (d.next ≤ 1000)) = false := by
      by_cases q : 1 ≤ d.next
      · rw [decide_eq_false (show ¬ d.next ≤ 1000 by omega)]; simp
      · rw [decide_eq_false q]; rfl
    rw [hb1] at SI
    generalize d.next = nx at *
    clear TY TN H HF EQ hb1 h1
    go_enter Tryz.func39, Tryz.ntmps39
    go_wp2_with (go_at_call 55; refine (unhide SI _).mono ?_; rintro e w1 ⟨rfl, rfl⟩)
    go_ret
    exact ⟨ret_bool (unhide Z), b0⟩
  have hb1 : (decide (1 ≤ d.next) && decide (d.next ≤ 1000)) = true := by rw [decide_eq_true h1.1, decide_eq_true h1.2]; rfl
  rw [hb1] at SI
  clear hb1
  by_cases h3 : ln ≤ 4096
  case neg =>
    have Z := hide (unhide TN (by omega))
    have g3 : (4096 : Int) < (ln : Int) := by omega
    generalize d.next = nx at *
    clear TY TN H HF EQ h1
    go_enter Tryz.func39, Tryz.ntmps39
    go_wp2_with (go_at_call 55; refine (unhide SI _).mono ?_; rintro e w1 ⟨rfl, rfl⟩)
    go_ret
    exact ⟨ret_bool (unhide Z), b0⟩
  by_cases h4 : fn ≤ 4096
  case neg =>
    have Z := hide (unhide TN (by omega))
    have g3 : ¬ (4096 : Int) < (ln : Int) := by omega
    have g4 : (4096 : Int) < (fn : Int) := by omega
    generalize d.next = nx at *
    clear TY TN H HF EQ h1
    go_enter Tryz.func39, Tryz.ntmps39
    go_wp2_with (go_at_call 55; refine (unhide SI _).mono ?_; rintro e w1 ⟨rfl, rfl⟩)
    go_ret
    exact ⟨ret_bool (unhide Z), b0⟩
  by_cases h5 : sn = 4
  case neg =>
    have Z := hide (unhide TN (by omega))
    have g3 : ¬ (4096 : Int) < (ln : Int) := by omega
    have g4 : ¬ (4096 : Int) < (fn : Int) := by omega
    have g5 : ((sn : Int) != 4) = true := by simp [bne]; omega
    generalize d.next = nx at *
    clear TY TN H HF EQ h1
    go_enter Tryz.func39, Tryz.ntmps39
    go_wp2_with (go_at_call 55; refine (unhide SI _).mono ?_; rintro e w1 ⟨rfl, rfl⟩)
    go_ret
    exact ⟨ret_bool (unhide Z), b0⟩
  subst h5
  have E := hide (unhide TY h1.1 h1.2 h3 h4 rfl)
  have g3 : ¬ (4096 : Int) < (ln : Int) := by omega
  have g4 : ¬ (4096 : Int) < (fn : Int) := by omega
  clear TY TN
  obtain ⟨nx, hnx⟩ : ∃ nx, nx = d.next := ⟨_, rfl⟩
  rw [← hnx] at b0 K E SI h1 ⊢
  have hwn : IntKind.i64.wrap (nx - 1) = nx - 1 := by rw [IntKind.wrap_i64]; omega
  clear hnx h1
  go_enter Tryz.func39, Tryz.ntmps39
  go_wp2_with (go_at_call 55; refine (unhide SI _).mono ?_; rintro e wq ⟨rfl, hww⟩; subst wq)
  generalize w.alloc (.cells #[.int .i64 nx, .slice la ln lc, .slice fa fn fc, .slice sa 4 sc] 27) = W at *
  generalize hbx : w.heap.size = bx at *
  clear g3 g4 SI
  have HH := hide (show ∀ u, Below bx w u → VsAt u ⟨la, ln, lc⟩ ⟨fa, fn, fc⟩ ⟨sa, 4, sc⟩ rs d from fun u hu => by subst hbx; exact (unhide H).below hu)
  refine (l06List_any la ln lc d.list W (by omega) (unhide HH W b0).v).mono ?_
  rintro e w1 ⟨rfl, hb⟩
  replace K := hide ((hb.block bx (Array.getElem?_eq_some_iff.1 (unhide K)).1).trans (unhide K))
  replace b0 := b0.trans (hb.mono (by subst hbx; exact b0.size))
  clear hb
  have hbs : bx ≤ w1.heap.size := by subst hbx; exact b0.size
  generalize okVs d.list = ok1 at *
  cases ok1
  · have Z := hide (show false = okVsD d by rw [unhide E]; rfl)
    go_wp2_with fail
    go_ret
    exact ⟨ret_bool (unhide Z), by subst hbx; exact b0⟩
  replace E := hide (show okVsD d = (lateK d.list nx && (d.fen.all (fenK nx) && d.ses.all (sesK nx))) by rw [unhide E]; rfl)
  go_wp2_with fail
  obtain ⟨c0, c1, c2, c3⟩ : w1.cell? ⟨bx, 0, none⟩ = some (.int .i64 nx) ∧ w1.cell? ⟨bx, 1, none⟩ = some (.slice la ln lc) ∧ w1.cell? ⟨bx, 2, none⟩ = some (.slice fa fn fc) ∧ w1.cell? ⟨bx, 3, none⟩ = some (.slice sa 4 sc) := ⟨(heap_at (unhide K) 0).1, (heap_at (unhide K) 1).1, (heap_at (unhide K) 2).1, (heap_at (unhide K) 3).1⟩
  go_loopw [3] (fun i wr => ∃ k : Nat, k ≤ ln ∧ i = .int .i64 k ∧ Hid (∀ i (hi : i < d.list.length), i < k → d.list[i].t < nx) ∧ ∃ q, wr = w1.drewN q) (fun i _ => ln - (intOf i).toNat)
  case atStart => exact ⟨0, Nat.zero_le _, rfl, (fun i _ hi => absurd hi (Nat.not_lt_zero _)), 0, rfl⟩
  case round =>
    obtain ⟨k, hk, rfl, hA, q, rfl⟩ := hrel
    by_cases hlt : k < ln
    · have hk2 : k < d.list.length := by rw [(unhide EQ).1]; exact hlt
      have hki : (k : Int) < (ln : Int) := by omega
      obtain ⟨b, off, rfl, d0, d1, d2, d3⟩ := (unhide HH w1 b0).v.2 k hk2
      have FZ := hide (fun (hf : ¬ d.list[k].t < nx) => show false = okVsD d by rw [unhide E, lateK_false hk2 hf]; rfl)
      have FY := hide (late_step hk2 (unhide hA))
      generalize d.list[k] = pd at *
      obtain ⟨pk, pt, pv, pg⟩ := pd
      simp only at d1 FZ FY
      clear d0 d2 d3 hA c2 c3
      by_cases ht : pt < nx
      · have Z := hide (unhide FY ht)
        have hd : decide (nx ≤ pt) = false := decide_eq_false (by omega)
        clear FZ FY ht
        go_wp2_with fail
        go_quiet (fail)
        go_wp2_with fail
        go_roundw
        case rel => exact ⟨k + 1, by omega, by go_num, unhide Z, _, rfl⟩
        case measure => simp [intOf]; omega
      · have Z := hide (unhide FZ ht)
        have hd : decide (nx ≤ pt) = true := decide_eq_true (by omega)
        clear FZ FY ht
        go_wp2_with fail
        go_quiet (fail)
        go_wp2_with fail
        go_ret
        exact ⟨ret_bool (unhide Z), by subst hbx; exact bel_drewN (bel_drewN b0 _) _⟩
    · obtain rfl : k = ln := by omega
      have hki : ¬ (k : Int) < (k : Int) := by omega
      replace E := hide (show okVsD d = (d.fen.all (fenK nx) && d.ses.all (sesK nx)) by
        rw [unhide E, lateK_true fun i hi => unhide hA i hi (by have := (unhide EQ).1; omega)]; rfl)
      clear hA
      go_wp2_with fail
      go_loopw [4] (fun i wr => ∃ k : Nat, k ≤ fn ∧ i = .int .i64 k ∧ Hid (∀ i (hi : i < d.fen.length), i < k → fenK nx d.fen[i] = true) ∧ ∃ q, wr = w1.drewN q) (fun i _ => fn - (intOf i).toNat)
      case atStart => exact ⟨0, Nat.zero_le _, rfl, (fun i _ hi => absurd hi (Nat.not_lt_zero _)), _, rfl⟩
      case round =>
        obtain ⟨j, hj, rfl, hA, q2, rfl⟩ := hrel
        by_cases hlt2 : j < fn
        · have hj2 : j < d.fen.length := by rw [(unhide EQ).2.1]; exact hlt2
          have hji : (j : Int) < (fn : Int) := by omega
          obtain ⟨b, off, rfl, d0, d1, d2⟩ := (unhide HH w1 b0).f.2 j hj2
          have FZ := hide (fun (hf : fenK nx d.fen[j] = false) => show false = okVsD d by rw [unhide E, all_false hj2 hf]; rfl)
          have FY := hide (step_all (p := fenK nx) hj2 (unhide hA))
          have FE := hide (show d.fen[j].f.size ≤ 40 → d.fen[j].u.size ≤ 41 → fenK nx d.fen[j] = (decide (1 ≤ d.fen[j].t) && decide (d.fen[j].t ≤ nx - 1)) from fen_in)
          have FN := hide (show ¬ (d.fen[j].f.size ≤ 40 ∧ d.fen[j].u.size ≤ 41) → fenK nx d.fen[j] = false from fun h => by
            unfold fenK
            by_cases h1 : d.fen[j].f.size ≤ 40
            · rw [decide_eq_false (show ¬ d.fen[j].u.size ≤ 41 from fun h2 => h ⟨h1, h2⟩)]; simp
            · rw [decide_eq_false h1]; rfl)
          generalize fenK nx d.fen[j] = fk at *
          generalize d.fen[j] = pd at *
          obtain ⟨pf, pu, pt⟩ := pd
          simp only at d0 d1 d2 FE FN
          clear hA c1 c3
          by_cases h1 : pf.size ≤ 40
          case neg =>
            have Z := hide (unhide FZ (unhide FN (fun h => h1 h.1)))
            have hd : decide ((40 : Int) < (pf.size : Int)) = true := decide_eq_true (by omega)
            clear FZ FY FE FN h1
            go_wp2_with fail
            go_quiet (fail)
            go_wp2_with fail
            go_ret
            exact ⟨ret_bool (unhide Z), by subst hbx; exact bel_drewN (bel_drewN b0 _) _⟩
          by_cases h2 : pu.size ≤ 41
          case neg =>
            have Z := hide (unhide FZ (unhide FN (fun h => h2 h.2)))
            have hd : decide ((40 : Int) < (pf.size : Int)) = false := decide_eq_false (by omega)
            have hd2 : decide ((41 : Int) < (pu.size : Int)) = true := decide_eq_true (by omega)
            clear FZ FY FE FN h1 h2
            go_wp2_with fail
            go_quiet (fail)
            go_wp2_with fail
            go_ret
            exact ⟨ret_bool (unhide Z), by subst hbx; exact bel_drewN (bel_drewN b0 _) _⟩
          have hd : decide ((40 : Int) < (pf.size : Int)) = false := decide_eq_false (by omega)
          have hd2 : decide ((41 : Int) < (pu.size : Int)) = false := decide_eq_false (by omega)
          have SI := hide (vs_l01In pt 1 (nx - 1))
          rw [← unhide FE h1 h2] at SI
          have SW := hide (show ∀ w, Calls Tryz.prog 55 #[.int .i64 pt, .int .i64 1, .int .i64 (IntKind.i64.wrap (nx - 1))] w fun e w' => e = .returned (.bool fk) ∧ w' = w from fun w => by rw [hwn]; exact unhide SI w)
          clear FE FN h1 h2
          cases fk
          · have Z := hide (unhide FZ rfl)
            clear FZ FY
            go_upto_region 11 with fail
            refine wp_region_held_drew (S := (fun u => Hid (u = (w1.drewN q2).drew) ∧ u.cell? ⟨bx, 0, none⟩ = some (.int .i64 nx) ∧ u.cell? ⟨bx, 2, none⟩ = some (.slice (some ⟨b, off, none⟩) fn fc) ∧ u.cell? ⟨b, off + j * 3, none⟩ = some (.string pf) ∧ u.cell? ⟨b, off + j * 3 + 1, none⟩ = some (.string pu) ∧ u.cell? ⟨b, off + j * 3 + 2, none⟩ = some (.int .i64 pt))) (by kernel_rfl) (⟨hide rfl, c0, c2, d0, d1, d2⟩) (fun hHeld => ?_)
            refine anyH_take 0 59 (v := ?v1) rfl rfl (by kernel_rfl) (by kernel_rfl) (by kernel_rfl) (fun _ _ _ h => h) (by rfl) ?h1 hHeld ?r1
            case h1 => (intro w hSw; (try dsimp only at hSw); go_simp; try (with_reducible rfl))
            simp only [Act.put, List.setIfInBounds_toArray, List.set_cons_zero, List.set_cons_succ]
            refine anyH_take 1 60 (v := ?v2) rfl rfl (by kernel_rfl) (by kernel_rfl) (by kernel_rfl) (fun _ _ _ h => h) (by rfl) ?h2 hHeld ?r2
            case h2 => (intro w hSw; (try dsimp only at hSw); go_simp; try (with_reducible rfl))
            simp only [Act.put, List.setIfInBounds_toArray, List.set_cons_zero, List.set_cons_succ]
            refine anyH_take 2 61 (v := ?v3) rfl rfl (by kernel_rfl) (by kernel_rfl) (by kernel_rfl) (fun _ _ _ h => h) (by rfl) ?h3 hHeld ?r3
            case h3 => (intro w hSw; (try dsimp only at hSw); go_simp; try (with_reducible rfl))
            simp only [Act.put, List.setIfInBounds_toArray, List.set_cons_zero, List.set_cons_succ]
            refine anyH_take 3 62 (v := ?v4) rfl rfl (by kernel_rfl) (by kernel_rfl) (by kernel_rfl) (fun _ _ _ h => h) (by rfl) ?h4 hHeld ?r4
            case h4 => (intro w hSw; (try dsimp only at hSw); go_simp; try (with_reducible rfl))
            simp only [Act.put, List.setIfInBounds_toArray, List.set_cons_zero, List.set_cons_succ]
            refine anyH_take 4 63 (v := ?v5) rfl rfl (by kernel_rfl) (by kernel_rfl) (by kernel_rfl) (fun _ _ _ h => h) (by rfl) ?h5 hHeld ?r5
            case h5 => (intro w hSw; (try dsimp only at hSw); go_simp; try (with_reducible rfl))
            simp only [Act.put, List.setIfInBounds_toArray, List.set_cons_zero, List.set_cons_succ]
            refine anyH_take 5 64 (v := ?v6) rfl rfl (by kernel_rfl) (by kernel_rfl) (by kernel_rfl) (fun _ _ _ h => h) (by rfl) ?h6 hHeld ?r6
            case h6 => (intro w hSw; (try dsimp only at hSw); go_simp; try (with_reducible rfl))
            simp only [Act.put, List.setIfInBounds_toArray, List.set_cons_zero, List.set_cons_succ]
            refine anyH_take 6 65 (v := ?v7) rfl rfl (by kernel_rfl) (by kernel_rfl) (by kernel_rfl) (fun _ _ _ h => h) (by rfl) ?h7 hHeld ?r7
            case h7 => (intro w hSw; (try dsimp only at hSw); go_simp; try (with_reducible rfl))
            simp only [Act.put, List.setIfInBounds_toArray, List.set_cons_zero, List.set_cons_succ]
            refine anyH_take 7 66 (v := ?v8) rfl rfl (by kernel_rfl) (by kernel_rfl) (by kernel_rfl) (fun _ _ _ h => h) (by rfl) ?h8 hHeld ?r8
            case h8 => (intro w hSw; (try dsimp only at hSw); go_simp; try (with_reducible rfl))
            simp only [Act.put, List.setIfInBounds_toArray, List.set_cons_zero, List.set_cons_succ]
            refine anyH_take 8 67 (v := ?v9) rfl rfl (by kernel_rfl) (by kernel_rfl) (by kernel_rfl) (fun _ _ _ h => h) (by rfl) ?h9 hHeld ?r9
            case h9 => (intro w hSw; (try dsimp only at hSw); go_simp; try (with_reducible rfl))
            simp only [Act.put, List.setIfInBounds_toArray, List.set_cons_zero, List.set_cons_succ]
            refine anyH_take 9 68 (v := ?v10) rfl rfl (by kernel_rfl) (by kernel_rfl) (by kernel_rfl) (fun _ _ _ h => h) (by rfl) ?h10 hHeld ?r10
            case h10 => (intro w hSw; (try dsimp only at hSw); go_simp; try (with_reducible rfl))
            simp only [Act.put, List.setIfInBounds_toArray, List.set_cons_zero, List.set_cons_succ]
            refine anyH_take 10 69 (v := ?v11) rfl rfl (by kernel_rfl) (by kernel_rfl) (by kernel_rfl) (fun _ _ _ h => h) (by rfl) ?h11 hHeld ?r11
            case h11 => (intro w hSw; (try dsimp only at hSw); go_simp; try (with_reducible rfl))
            simp only [Act.put, List.setIfInBounds_toArray, List.set_cons_zero, List.set_cons_succ]
            refine anyH_take 11 70 (v := ?v12) rfl rfl (by kernel_rfl) (by kernel_rfl) (by kernel_rfl) (fun _ _ _ h => h) (by rfl) ?h12 hHeld ?r12
            case h12 => (intro w hSw; (try dsimp only at hSw); go_simp; try (with_reducible rfl))
            simp only [Act.put, List.setIfInBounds_toArray, List.set_cons_zero, List.set_cons_succ]
            refine anyH_take 12 71 (v := ?v13) rfl rfl (by kernel_rfl) (by kernel_rfl) (by kernel_rfl) (fun _ _ _ h => h) (by rfl) ?h13 hHeld ?r13
            case h13 => (intro w hSw; (try dsimp only at hSw); go_simp; try (with_reducible rfl))
            simp only [Act.put, List.setIfInBounds_toArray, List.set_cons_zero, List.set_cons_succ]
            refine anyH_take 13 72 (v := ?v14) rfl rfl (by kernel_rfl) (by kernel_rfl) (by kernel_rfl) (fun _ _ _ h => h) (by rfl) ?h14 hHeld ?r14
            case h14 => (intro w hSw; (try dsimp only at hSw); go_simp; try (with_reducible rfl))
            simp only [Act.put, List.setIfInBounds_toArray, List.set_cons_zero, List.set_cons_succ]
            refine anyH_take 14 73 (v := ?v15) rfl rfl (by kernel_rfl) (by kernel_rfl) (by kernel_rfl) (fun _ _ _ h => h) (by rfl) ?h15 hHeld ?r15
            case h15 => (intro w hSw; (try dsimp only at hSw); go_simp; try (with_reducible rfl))
            simp only [Act.put, List.setIfInBounds_toArray, List.set_cons_zero, List.set_cons_succ]
            refine anyH_take 15 74 (v := ?v16) rfl rfl (by kernel_rfl) (by kernel_rfl) (by kernel_rfl) (fun _ _ _ h => h) (by rfl) ?h16 hHeld ?r16
            case h16 => (intro w hSw; (try dsimp only at hSw); go_simp; try (with_reducible rfl))
            simp only [Act.put, List.setIfInBounds_toArray, List.set_cons_zero, List.set_cons_succ]
            refine anyH_take 16 75 (v := ?v17) rfl rfl (by kernel_rfl) (by kernel_rfl) (by kernel_rfl) (fun _ _ _ h => h) (by rfl) ?h17 hHeld ?r17
            case h17 => (intro w hSw; (try dsimp only at hSw); go_simp; try (with_reducible rfl))
            simp only [Act.put, List.setIfInBounds_toArray, List.set_cons_zero, List.set_cons_succ]
            refine anyH_take 17 76 (v := ?v18) rfl rfl (by kernel_rfl) (by kernel_rfl) (by kernel_rfl) (fun _ _ _ h => h) (by rfl) ?h18 hHeld ?r18
            case h18 => (intro w hSw; (try dsimp only at hSw); go_simp; try (with_reducible rfl))
            simp only [Act.put, List.setIfInBounds_toArray, List.set_cons_zero, List.set_cons_succ]
            refine anyH_take 18 77 (v := ?v19) rfl rfl (by kernel_rfl) (by kernel_rfl) (by kernel_rfl) (fun _ _ _ h => h) (by rfl) ?h19 hHeld ?r19
            case h19 => (intro w hSw; (try dsimp only at hSw); go_simp; try (with_reducible rfl))
            simp only [Act.put, List.setIfInBounds_toArray, List.set_cons_zero, List.set_cons_succ]
            refine anyH_take 19 78 (v := ?v20) rfl rfl (by kernel_rfl) (by kernel_rfl) (by kernel_rfl) (fun _ _ _ h => h) (by rfl) ?h20 hHeld ?r20
            case h20 => (intro w hSw; (try dsimp only at hSw); go_simp; try (with_reducible rfl))
            simp only [Act.put, List.setIfInBounds_toArray, List.set_cons_zero, List.set_cons_succ]
            refine anyH_take 20 79 (v := ?v21) rfl rfl (by kernel_rfl) (by kernel_rfl) (by kernel_rfl) (fun _ _ _ h => h) (by rfl) ?h21 hHeld ?r21
            case h21 => (intro w hSw; (try dsimp only at hSw); go_simp; try (with_reducible rfl))
            simp only [Act.put, List.setIfInBounds_toArray, List.set_cons_zero, List.set_cons_succ]
            refine anyH_take 21 80 (v := ?v22) rfl rfl (by kernel_rfl) (by kernel_rfl) (by kernel_rfl) (fun _ _ _ h => h) (by rfl) ?h22 hHeld ?r22
            case h22 => (intro w hSw; (try dsimp only at hSw); go_simp; try (with_reducible rfl))
            simp only [Act.put, List.setIfInBounds_toArray, List.set_cons_zero, List.set_cons_succ]
            refine anyH_take 22 81 (v := ?v23) rfl rfl (by kernel_rfl) (by kernel_rfl) (by kernel_rfl) (fun _ _ _ h => h) (by rfl) ?h23 hHeld ?r23
            case h23 => (intro w hSw; (try dsimp only at hSw); go_simp; try (with_reducible rfl))
            simp only [Act.put, List.setIfInBounds_toArray, List.set_cons_zero, List.set_cons_succ]
            refine anyH_take 23 82 (v := ?v24) rfl rfl (by kernel_rfl) (by kernel_rfl) (by kernel_rfl) (fun _ _ _ h => h) (by rfl) ?h24 hHeld ?r24
            case h24 => (intro w hSw; (try dsimp only at hSw); go_simp; try (with_reducible rfl))
            simp only [Act.put, List.setIfInBounds_toArray, List.set_cons_zero, List.set_cons_succ]
            refine anyH_take 24 83 (v := ?v25) rfl rfl (by kernel_rfl) (by kernel_rfl) (by kernel_rfl) (fun _ _ _ h => h) (by rfl) ?h25 hHeld ?r25
            case h25 => (intro w hSw; (try dsimp only at hSw); go_simp; try (with_reducible rfl))
            simp only [Act.put, List.setIfInBounds_toArray, List.set_cons_zero, List.set_cons_succ]
            refine anyH_take 25 84 (v := ?v26) rfl rfl (by kernel_rfl) (by kernel_rfl) (by kernel_rfl) (fun _ _ _ h => h) (by rfl) ?h26 hHeld ?r26
            case h26 => (intro w hSw; (try dsimp only at hSw); go_simp; try (with_reducible rfl))
            simp only [Act.put, List.setIfInBounds_toArray, List.set_cons_zero, List.set_cons_succ]
            refine anyH_take 26 85 (v := ?v27) rfl rfl (by kernel_rfl) (by kernel_rfl) (by kernel_rfl) (fun _ _ _ h => h) (by rfl) ?h27 hHeld ?r27
            case h27 => (intro w hSw; (try dsimp only at hSw); go_simp; try (with_reducible rfl))
            simp only [Act.put, List.setIfInBounds_toArray, List.set_cons_zero, List.set_cons_succ]
            refine anyH_take 27 86 (v := ?v28) rfl rfl (by kernel_rfl) (by kernel_rfl) (by kernel_rfl) (fun _ _ _ h => h) (by rfl) ?h28 hHeld ?r28
            case h28 => (intro w hSw; (try dsimp only at hSw); go_simp; try (with_reducible rfl))
            simp only [Act.put, List.setIfInBounds_toArray, List.set_cons_zero, List.set_cons_succ]
            refine wpAnyH_ready (rs := [28]) (by kernel_rfl) (by simp) ?_
            refine AllReadyH.cons rfl (fun K hK => ?_) AllReadyH.nil
            go_simp
            first | refine (unhide SI _).mono ?_ | refine (unhide SW _).mono ?_
            rintro e wz ⟨rfl, hzz⟩
            subst wz
            refine hK.out _ _ (⟨hide rfl, c0, c2, d0, d1, d2⟩) (fun hHeld => ?_)
            clear hK K
            refine anyH_take 29 88 (v := ?v29) rfl rfl (by kernel_rfl) (by kernel_rfl) (by kernel_rfl) (fun _ _ _ h => h) (by rfl) ?h29 hHeld ?r29
            case h29 => (intro w hSw; (try dsimp only at hSw); go_simp; try (with_reducible rfl))
            simp only [Act.put, List.setIfInBounds_toArray, List.set_cons_zero, List.set_cons_succ]
            refine anyH_take 30 89 (v := ?v30) rfl rfl (by kernel_rfl) (by kernel_rfl) (by kernel_rfl) (fun _ _ _ h => h) (by rfl) ?h30 hHeld ?r30
            case h30 => (intro w hSw; (try dsimp only at hSw); go_simp; try (with_reducible rfl))
            simp only [Act.put, List.setIfInBounds_toArray, List.set_cons_zero, List.set_cons_succ]
            refine wpAnyH_done (by kernel_rfl) ?_ _
            go_wp2_with fail
            go_ret
            exact ⟨ret_bool (unhide Z), by subst hbx; exact (bel_drewN b0 _).drew⟩
          · have Z := hide (unhide FY rfl)
            clear FZ FY
            go_upto_region 11 with fail
            refine wp_region_held_drew (S := (fun u => Hid (u = (w1.drewN q2).drew) ∧ u.cell? ⟨bx, 0, none⟩ = some (.int .i64 nx) ∧ u.cell? ⟨bx, 2, none⟩ = some (.slice (some ⟨b, off, none⟩) fn fc) ∧ u.cell? ⟨b, off + j * 3, none⟩ = some (.string pf) ∧ u.cell? ⟨b, off + j * 3 + 1, none⟩ = some (.string pu) ∧ u.cell? ⟨b, off + j * 3 + 2, none⟩ = some (.int .i64 pt))) (by kernel_rfl) (⟨hide rfl, c0, c2, d0, d1, d2⟩) (fun hHeld => ?_)
            refine anyH_take 0 59 (v := ?v31) rfl rfl (by kernel_rfl) (by kernel_rfl) (by kernel_rfl) (fun _ _ _ h => h) (by rfl) ?h31 hHeld ?r31
            case h31 => (intro w hSw; (try dsimp only at hSw); go_simp; try (with_reducible rfl))
            simp only [Act.put, List.setIfInBounds_toArray, List.set_cons_zero, List.set_cons_succ]
            refine anyH_take 1 60 (v := ?v32) rfl rfl (by kernel_rfl) (by kernel_rfl) (by kernel_rfl) (fun _ _ _ h => h) (by rfl) ?h32 hHeld ?r32
            case h32 => (intro w hSw; (try dsimp only at hSw); go_simp; try (with_reducible rfl))
            simp only [Act.put, List.setIfInBounds_toArray, List.set_cons_zero, List.set_cons_succ]
            refine anyH_take 2 61 (v := ?v33) rfl rfl (by kernel_rfl) (by kernel_rfl) (by kernel_rfl) (fun _ _ _ h => h) (by rfl) ?h33 hHeld ?r33
            case h33 => (intro w hSw; (try dsimp only at hSw); go_simp; try (with_reducible rfl))
            simp only [Act.put, List.setIfInBounds_toArray, List.set_cons_zero, List.set_cons_succ]
            refine anyH_take 3 62 (v := ?v34) rfl rfl (by kernel_rfl) (by kernel_rfl) (by kernel_rfl) (fun _ _ _ h => h) (by rfl) ?h34 hHeld ?r34
            case h34 => (intro w hSw; (try dsimp only at hSw); go_simp; try (with_reducible rfl))
            simp only [Act.put, List.setIfInBounds_toArray, List.set_cons_zero, List.set_cons_succ]
            refine anyH_take 4 63 (v := ?v35) rfl rfl (by kernel_rfl) (by kernel_rfl) (by kernel_rfl) (fun _ _ _ h => h) (by rfl) ?h35 hHeld ?r35
            case h35 => (intro w hSw; (try dsimp only at hSw); go_simp; try (with_reducible rfl))
            simp only [Act.put, List.setIfInBounds_toArray, List.set_cons_zero, List.set_cons_succ]
            refine anyH_take 5 64 (v := ?v36) rfl rfl (by kernel_rfl) (by kernel_rfl) (by kernel_rfl) (fun _ _ _ h => h) (by rfl) ?h36 hHeld ?r36
            case h36 => (intro w hSw; (try dsimp only at hSw); go_simp; try (with_reducible rfl))
            simp only [Act.put, List.setIfInBounds_toArray, List.set_cons_zero, List.set_cons_succ]
            refine anyH_take 6 65 (v := ?v37) rfl rfl (by kernel_rfl) (by kernel_rfl) (by kernel_rfl) (fun _ _ _ h => h) (by rfl) ?h37 hHeld ?r37
            case h37 => (intro w hSw; (try dsimp only at hSw); go_simp; try (with_reducible rfl))
            simp only [Act.put, List.setIfInBounds_toArray, List.set_cons_zero, List.set_cons_succ]
            refine anyH_take 7 66 (v := ?v38) rfl rfl (by kernel_rfl) (by kernel_rfl) (by kernel_rfl) (fun _ _ _ h => h) (by rfl) ?h38 hHeld ?r38
            case h38 => (intro w hSw; (try dsimp only at hSw); go_simp; try (with_reducible rfl))
            simp only [Act.put, List.setIfInBounds_toArray, List.set_cons_zero, List.set_cons_succ]
            refine anyH_take 8 67 (v := ?v39) rfl rfl (by kernel_rfl) (by kernel_rfl) (by kernel_rfl) (fun _ _ _ h => h) (by rfl) ?h39 hHeld ?r39
            case h39 => (intro w hSw; (try dsimp only at hSw); go_simp; try (with_reducible rfl))
            simp only [Act.put, List.setIfInBounds_toArray, List.set_cons_zero, List.set_cons_succ]
            refine anyH_take 9 68 (v := ?v40) rfl rfl (by kernel_rfl) (by kernel_rfl) (by kernel_rfl) (fun _ _ _ h => h) (by rfl) ?h40 hHeld ?r40
            case h40 => (intro w hSw; (try dsimp only at hSw); go_simp; try (with_reducible rfl))
            simp only [Act.put, List.setIfInBounds_toArray, List.set_cons_zero, List.set_cons_succ]
            refine anyH_take 10 69 (v := ?v41) rfl rfl (by kernel_rfl) (by kernel_rfl) (by kernel_rfl) (fun _ _ _ h => h) (by rfl) ?h41 hHeld ?r41
            case h41 => (intro w hSw; (try dsimp only at hSw); go_simp; try (with_reducible rfl))
            simp only [Act.put, List.setIfInBounds_toArray, List.set_cons_zero, List.set_cons_succ]
            refine anyH_take 11 70 (v := ?v42) rfl rfl (by kernel_rfl) (by kernel_rfl) (by kernel_rfl) (fun _ _ _ h => h) (by rfl) ?h42 hHeld ?r42
            case h42 => (intro w hSw; (try dsimp only at hSw); go_simp; try (with_reducible rfl))
            simp only [Act.put, List.setIfInBounds_toArray, List.set_cons_zero, List.set_cons_succ]
            refine anyH_take 12 71 (v := ?v43) rfl rfl (by kernel_rfl) (by kernel_rfl) (by kernel_rfl) (fun _ _ _ h => h) (by rfl) ?h43 hHeld ?r43
            case h43 => (intro w hSw; (try dsimp only at hSw); go_simp; try (with_reducible rfl))
            simp only [Act.put, List.setIfInBounds_toArray, List.set_cons_zero, List.set_cons_succ]
            refine anyH_take 13 72 (v := ?v44) rfl rfl (by kernel_rfl) (by kernel_rfl) (by kernel_rfl) (fun _ _ _ h => h) (by rfl) ?h44 hHeld ?r44
            case h44 => (intro w hSw; (try dsimp only at hSw); go_simp; try (with_reducible rfl))
            simp only [Act.put, List.setIfInBounds_toArray, List.set_cons_zero, List.set_cons_succ]
            refine anyH_take 14 73 (v := ?v45) rfl rfl (by kernel_rfl) (by kernel_rfl) (by kernel_rfl) (fun _ _ _ h => h) (by rfl) ?h45 hHeld ?r45
            case h45 => (intro w hSw; (try dsimp only at hSw); go_simp; try (with_reducible rfl))
            simp only [Act.put, List.setIfInBounds_toArray, List.set_cons_zero, List.set_cons_succ]
            refine anyH_take 15 74 (v := ?v46) rfl rfl (by kernel_rfl) (by kernel_rfl) (by kernel_rfl) (fun _ _ _ h => h) (by rfl) ?h46 hHeld ?r46
            case h46 => (intro w hSw; (try dsimp only at hSw); go_simp; try (with_reducible rfl))
            simp only [Act.put, List.setIfInBounds_toArray, List.set_cons_zero, List.set_cons_succ]
            refine anyH_take 16 75 (v := ?v47) rfl rfl (by kernel_rfl) (by kernel_rfl) (by kernel_rfl) (fun _ _ _ h => h) (by rfl) ?h47 hHeld ?r47
            case h47 => (intro w hSw; (try dsimp only at hSw); go_simp; try (with_reducible rfl))
            simp only [Act.put, List.setIfInBounds_toArray, List.set_cons_zero, List.set_cons_succ]
            refine anyH_take 17 76 (v := ?v48) rfl rfl (by kernel_rfl) (by kernel_rfl) (by kernel_rfl) (fun _ _ _ h => h) (by rfl) ?h48 hHeld ?r48
            case h48 => (intro w hSw; (try dsimp only at hSw); go_simp; try (with_reducible rfl))
            simp only [Act.put, List.setIfInBounds_toArray, List.set_cons_zero, List.set_cons_succ]
            refine anyH_take 18 77 (v := ?v49) rfl rfl (by kernel_rfl) (by kernel_rfl) (by kernel_rfl) (fun _ _ _ h => h) (by rfl) ?h49 hHeld ?r49
            case h49 => (intro w hSw; (try dsimp only at hSw); go_simp; try (with_reducible rfl))
            simp only [Act.put, List.setIfInBounds_toArray, List.set_cons_zero, List.set_cons_succ]
            refine anyH_take 19 78 (v := ?v50) rfl rfl (by kernel_rfl) (by kernel_rfl) (by kernel_rfl) (fun _ _ _ h => h) (by rfl) ?h50 hHeld ?r50
            case h50 => (intro w hSw; (try dsimp only at hSw); go_simp; try (with_reducible rfl))
            simp only [Act.put, List.setIfInBounds_toArray, List.set_cons_zero, List.set_cons_succ]
            refine anyH_take 20 79 (v := ?v51) rfl rfl (by kernel_rfl) (by kernel_rfl) (by kernel_rfl) (fun _ _ _ h => h) (by rfl) ?h51 hHeld ?r51
            case h51 => (intro w hSw; (try dsimp only at hSw); go_simp; try (with_reducible rfl))
            simp only [Act.put, List.setIfInBounds_toArray, List.set_cons_zero, List.set_cons_succ]
            refine anyH_take 21 80 (v := ?v52) rfl rfl (by kernel_rfl) (by kernel_rfl) (by kernel_rfl) (fun _ _ _ h => h) (by rfl) ?h52 hHeld ?r52
            case h52 => (intro w hSw; (try dsimp only at hSw); go_simp; try (with_reducible rfl))
            simp only [Act.put, List.setIfInBounds_toArray, List.set_cons_zero, List.set_cons_succ]
            refine anyH_take 22 81 (v := ?v53) rfl rfl (by kernel_rfl) (by kernel_rfl) (by kernel_rfl) (fun _ _ _ h => h) (by rfl) ?h53 hHeld ?r53
            case h53 => (intro w hSw; (try dsimp only at hSw); go_simp; try (with_reducible rfl))
            simp only [Act.put, List.setIfInBounds_toArray, List.set_cons_zero, List.set_cons_succ]
            refine anyH_take 23 82 (v := ?v54) rfl rfl (by kernel_rfl) (by kernel_rfl) (by kernel_rfl) (fun _ _ _ h => h) (by rfl) ?h54 hHeld ?r54
            case h54 => (intro w hSw; (try dsimp only at hSw); go_simp; try (with_reducible rfl))
            simp only [Act.put, List.setIfInBounds_toArray, List.set_cons_zero, List.set_cons_succ]
            refine anyH_take 24 83 (v := ?v55) rfl rfl (by kernel_rfl) (by kernel_rfl) (by kernel_rfl) (fun _ _ _ h => h) (by rfl) ?h55 hHeld ?r55
            case h55 => (intro w hSw; (try dsimp only at hSw); go_simp; try (with_reducible rfl))
            simp only [Act.put, List.setIfInBounds_toArray, List.set_cons_zero, List.set_cons_succ]
            refine anyH_take 25 84 (v := ?v56) rfl rfl (by kernel_rfl) (by kernel_rfl) (by kernel_rfl) (fun _ _ _ h => h) (by rfl) ?h56 hHeld ?r56
            case h56 => (intro w hSw; (try dsimp only at hSw); go_simp; try (with_reducible rfl))
            simp only [Act.put, List.setIfInBounds_toArray, List.set_cons_zero, List.set_cons_succ]
            refine anyH_take 26 85 (v := ?v57) rfl rfl (by kernel_rfl) (by kernel_rfl) (by kernel_rfl) (fun _ _ _ h => h) (by rfl) ?h57 hHeld ?r57
            case h57 => (intro w hSw; (try dsimp only at hSw); go_simp; try (with_reducible rfl))
            simp only [Act.put, List.setIfInBounds_toArray, List.set_cons_zero, List.set_cons_succ]
            refine anyH_take 27 86 (v := ?v58) rfl rfl (by kernel_rfl) (by kernel_rfl) (by kernel_rfl) (fun _ _ _ h => h) (by rfl) ?h58 hHeld ?r58
            case h58 => (intro w hSw; (try dsimp only at hSw); go_simp; try (with_reducible rfl))
            simp only [Act.put, List.setIfInBounds_toArray, List.set_cons_zero, List.set_cons_succ]
            refine wpAnyH_ready (rs := [28]) (by kernel_rfl) (by simp) ?_
            refine AllReadyH.cons rfl (fun K hK => ?_) AllReadyH.nil
            go_simp
            first | refine (unhide SI _).mono ?_ | refine (unhide SW _).mono ?_
            rintro e wz ⟨rfl, hzz⟩
            subst wz
            refine hK.out _ _ (⟨hide rfl, c0, c2, d0, d1, d2⟩) (fun hHeld => ?_)
            clear hK K
            refine anyH_take 29 88 (v := ?v59) rfl rfl (by kernel_rfl) (by kernel_rfl) (by kernel_rfl) (fun _ _ _ h => h) (by rfl) ?h59 hHeld ?r59
            case h59 => (intro w hSw; (try dsimp only at hSw); go_simp; try (with_reducible rfl))
            simp only [Act.put, List.setIfInBounds_toArray, List.set_cons_zero, List.set_cons_succ]
            refine anyH_take 30 89 (v := ?v60) rfl rfl (by kernel_rfl) (by kernel_rfl) (by kernel_rfl) (fun _ _ _ h => h) (by rfl) ?h60 hHeld ?r60
            case h60 => (intro w hSw; (try dsimp only at hSw); go_simp; try (with_reducible rfl))
            simp only [Act.put, List.setIfInBounds_toArray, List.set_cons_zero, List.set_cons_succ]
            refine wpAnyH_done (by kernel_rfl) ?_ _
            go_wp2_with fail
            go_roundw
            case rel => exact ⟨j + 1, by omega, by go_num, unhide Z, q2 + 1, rfl⟩
            case measure => simp [intOf]; omega
        · obtain rfl : j = fn := by omega
          have hji : ¬ (j : Int) < (j : Int) := by omega
          replace E := hide (show okVsD d = d.ses.all (sesK nx) by
            rw [unhide E, all_true fun i hi => unhide hA i hi (by have := (unhide EQ).2.1; omega)]; rfl)
          clear hA
          go_wp2_with fail
          clear c1 c2
          go_loopw [5] (fun i wr => ∃ k : Nat, k ≤ 4 ∧ i = .int .i64 k ∧ Hid (∀ i (hi : i < d.ses.length), i < k → sesK nx d.ses[i] = true) ∧ Hid (Below bx w wr) ∧ Hid (wr.cell? ⟨bx, 0, none⟩ = some (.int .i64 nx) ∧ wr.cell? ⟨bx, 3, none⟩ = some (.slice sa 4 sc)) ∧ bx < wr.heap.size) (fun i _ => 4 - (intOf i).toNat)
          case atStart => exact ⟨0, Nat.zero_le _, rfl, (fun i _ hi => absurd hi (Nat.not_lt_zero _)), bel_drewN b0 _, ⟨c0, c3⟩, (Array.getElem?_eq_some_iff.1 (unhide K)).1⟩
          case round =>
            clear c0 c3 K b0 hbs
            obtain ⟨m, hm, rfl, hA, hB, hC, hbs⟩ := hrel
            obtain ⟨c0, c3⟩ := unhide hC
            by_cases hlt3 : m < 4
            · have hm2 : m < d.ses.length := by rw [(unhide EQ).2.2]; exact hlt3
              have hm3 : m < rs.length := by rw [(unhide HH _ (unhide hB)).ss.1]; exact hm2
              have hmi : (m : Int) < 4 := by omega
              obtain ⟨b, off, rfl, d0, d1, d2⟩ := (unhide HH _ (unhide hB)).s.2 m hm3
              have VV := hide (show ∀ u, Below bx w u → rs[m].o = d.ses[m].o ∧ rs[m].t = d.ses[m].t ∧ VRow u rs[m].ws.a rs[m].ws.n d.ses[m].ws from fun u hu => (unhide HH u hu).ss.2 m hm3 hm2)
              have WN := (unhide HF).w m hm3
              have FZ := hide (fun (hf : sesK nx d.ses[m] = false) => show false = okVsD d by rw [unhide E, all_false hm2 hf])
              have FY := hide (step_all (p := sesK nx) hm2 (unhide hA))
              generalize d.ses[m] = sd at *
              generalize rs[m] = pd at *
              obtain ⟨po, pt, pa, pn, pc⟩ := pd
              obtain ⟨so, st, sws⟩ := sd
              obtain ⟨eo, et, _⟩ := unhide VV _ (unhide hB)
              simp only at d0 d1 d2 VV WN eo et
              subst eo et
              have LW := hide (unhide VV _ (unhide hB)).2.2.1
              have B1 : Below wr.heap.size wr (wr.alloc (.cells #[.bool po, .int .i64 pt, .slice pa pn pc] 93)) := (Below.refl _ _).alloc (Nat.le_refl _) _
              have BX := hide ((unhide hB).trans (B1.mono (by omega)))
              have x0 := (B1.cell (p := ⟨bx, 0, none⟩) hbs).trans c0
              have x3 := (B1.cell (p := ⟨bx, 3, none⟩) hbs).trans c3
              have KS := hide (heap_alloc_new wr (.cells #[.bool po, .int .i64 pt, .slice pa pn pc] 93))
              have hs1 := B1.size
              have hsx : bx < wr.heap.size := hbs
              clear B1 hA hB hC
              go_upto_region 17 with fail
              clear c0 c3 d0 d1 d2
              generalize wr.alloc (.cells #[.bool po, .int .i64 pt, .slice pa pn pc] 93) = W2 at *
              have hbs2 : bx < W2.heap.size := by omega
              generalize wr.heap.size = sx at *
              obtain ⟨y0, y1, y2⟩ : W2.cell? ⟨sx, 0, none⟩ = some (.bool po) ∧ W2.cell? ⟨sx, 1, none⟩ = some (.int .i64 pt) ∧ W2.cell? ⟨sx, 2, none⟩ = some (.slice pa pn pc) := ⟨(heap_at (unhide KS) 0).1, (heap_at (unhide KS) 1).1, (heap_at (unhide KS) 2).1⟩
              by_cases hl8 : pn ≤ 8
              case neg =>
                have Z := hide (unhide FZ (ses_long (by rw [unhide LW]; exact hl8)))
                have g8 : (8 : Int) < (pn : Int) := by omega
                clear FZ FY
                go_wp2_with fail
                go_ret
                exact ⟨ret_bool (unhide Z), by subst hbx; exact unhide BX⟩
              have g8 : ¬ (8 : Int) < (pn : Int) := by omega
              have LS := hide (show Calls Tryz.prog 30 #[.slice pa pn pc] W2 fun e w' => e = .returned (.bool (okVs sws)) ∧ Below W2.heap.size W2 w' from l06List_any pa pn pc sws W2 WN (unhide VV W2 (unhide BX)).2.2)
              cases po
              · have SE := hide (ses_shut (next := nx) (s := ⟨false, pt, sws⟩) rfl)
                by_cases ht : pt = 0
                · subst ht
                  by_cases hp : pn = 0
                  · subst hp
                    have Z := hide (unhide FY (by rw [unhide SE]; simp only; rw [unhide LW]; rfl))
                    have hws : sws = [] := List.eq_nil_of_length_eq_zero (unhide LW)
                    have EO := hide (show okVs sws = true by rw [hws]; rfl)
                    rw [unhide EO] at LS
                    clear FZ FY SE hws EO g8 hl8
                    go_wp2_with fail
                    refine (unhide LS).mono ?_
                    rintro e w3 ⟨rfl, hb⟩
                    have z0 := (hb.cell (p := ⟨bx, 0, none⟩) hbs2).trans x0
                    have z3 := (hb.cell (p := ⟨bx, 3, none⟩) hbs2).trans x3
                    have z2 := (hb.cell (p := ⟨sx, 2, none⟩) (cell_lt y2)).trans y2
                    have B3 := hide ((unhide BX).trans (hb.mono (by omega)))
                    have hs3 := hb.size
                    clear hb LS y0 y1 y2 x0 x3 BX
                    go_wp2_with fail
                    refine wp_loop_rounds 1 ?_
                    rw [rounds_succ]
                    go_wp2_with fail
                    go_roundw
                    case rel => exact ⟨m + 1, by omega, by go_num, unhide Z, unhide B3, ⟨z0, z3⟩, by omega⟩
                    case measure => simp [intOf]; omega
                  · have Z := hide (unhide FZ (by rw [unhide SE]; simp only; rw [unhide LW, decide_eq_false hp]; simp))
                    have gp : (0 : Int) < (pn : Int) := by omega
                    clear FZ FY SE LS
                    go_wp2_with fail
                    go_ret
                    exact ⟨ret_bool (unhide Z), by subst hbx; exact unhide BX⟩
                · have Z := hide (unhide FZ (by rw [unhide SE]; simp only; rw [decide_eq_false ht]; rfl))
                  have gp : (pt != 0) = true := by simpa [bne] using ht
                  clear FZ FY SE LS
                  go_wp2_with fail
                  go_ret
                  exact ⟨ret_bool (unhide Z), by subst hbx; exact unhide BX⟩
              · have SE := hide (ses_open (next := nx) (s := ⟨true, pt, sws⟩) rfl (by rw [unhide LW]; exact hl8))
                simp only at SE
                have SI := hide (vs_l01In pt 1 (nx - 1))
                generalize (decide (1 ≤ pt) && decide (pt ≤ nx - 1)) = bi at *
                have SW := hide (show ∀ w, Calls Tryz.prog 55 #[.int .i64 pt, .int .i64 1, .int .i64 (IntKind.i64.wrap (nx - 1))] w fun e w' => e = .returned (.bool bi) ∧ w' = w from fun w => by rw [hwn]; exact unhide SI w)
                cases bi
                · have Z := hide (unhide FZ (by rw [unhide SE]; rfl))
                  clear FZ FY SE LS
                  go_wp2_with (first | (go_at_call 55; refine (unhide SI _).mono ?_; rintro e wq ⟨rfl, hww⟩; subst wq) | (go_at_call 55; refine (unhide SW _).mono ?_; rintro e wq ⟨rfl, hww⟩; subst wq))
                  go_ret
                  exact ⟨ret_bool (unhide Z), by subst hbx; exact unhide BX⟩
                · have EO := hide (show sesK nx ⟨true, pt, sws⟩ = (okVs sws && oneT sws pt) by rw [unhide SE]; rfl)
                  clear SE
                  go_wp2_with (first | (go_at_call 55; refine (unhide SI _).mono ?_; rintro e wq ⟨rfl, hww⟩; subst wq) | (go_at_call 55; refine (unhide SW _).mono ?_; rintro e wq ⟨rfl, hww⟩; subst wq))
                  refine (unhide LS).mono ?_
                  rintro e w3 ⟨rfl, hb⟩
                  have z0 := (hb.cell (p := ⟨bx, 0, none⟩) hbs2).trans x0
                  have z3 := (hb.cell (p := ⟨bx, 3, none⟩) hbs2).trans x3
                  have z1 := (hb.cell (p := ⟨sx, 1, none⟩) (cell_lt y1)).trans y1
                  have z2 := (hb.cell (p := ⟨sx, 2, none⟩) (cell_lt y2)).trans y2
                  have B3 := hide ((unhide BX).trans (hb.mono (by omega)))
                  have hs3 := hb.size
                  have VW := hide (unhide VV w3 (unhide B3)).2.2
                  clear hb LS y0 y1 y2 x0 x3 BX SI SW g8
                  cases hok : okVs sws with
                  | false =>
                    have Z := hide (unhide FZ (by rw [unhide EO, hok]; rfl))
                    clear FZ FY EO hok
                    go_wp2_with fail
                    go_ret
                    exact ⟨ret_bool (unhide Z), by subst hbx; exact unhide B3⟩
                  | true =>
                    have HOK := hide hok
                    clear hok
                    go_wp2_with fail
                    go_loopw [7] (fun i wr => ∃ k : Nat, k ≤ pn ∧ i = .int .i64 k ∧ Hid (∀ i (hi : i < sws.length), i < k → sws[i].t = pt) ∧ ∃ q, wr = w3.drewN q) (fun i _ => pn - (intOf i).toNat)
                    case atStart => exact ⟨0, Nat.zero_le _, rfl, (fun i _ hi => absurd hi (Nat.not_lt_zero _)), 0, rfl⟩
                    case round =>
                      obtain ⟨r, hr, rfl, hT, q3, rfl⟩ := hrel
                      by_cases hlt4 : r < pn
                      · have hr2 : r < sws.length := by rw [unhide LW]; exact hlt4
                        have hri : (r : Int) < (pn : Int) := by omega
                        obtain ⟨vb, vo, ea, v0, v1, v2, v3⟩ := (unhide VW).2 r hr2
                        subst ea
                        have SF := hide (fun (e : sws[r].t ≠ pt) => show false = okVsD d from unhide FZ (by rw [unhide EO, oneT_false hr2 e]; simp))
                        have SY := hide (find_step hr2 (unhide hT))
                        by_cases hr0 : r = 0
                        · have hg : decide ((0 : Int) < (r : Int)) = false := decide_eq_false (by omega)
                          have hg1 : decide (0 < r) = false := decide_eq_false (by omega)
                          clear hr0 hT
                          generalize sws[r] = xd at *
                          obtain ⟨xk, xt, xv, xg⟩ := xd
                          simp only at v0 v1 SF SY
                          clear v2 v3
                          by_cases ht : xt = pt
                          · subst ht
                            have Z := hide (unhide SY rfl)
                            have hd : (xt != xt) = false := by simp
                            clear SF SY
                            go_wp2_with fail
                            go_quiet (fail)
                            go_wp2_with fail
                            go_roundw
                            case rel => exact ⟨r + 1, by omega, by go_num, unhide Z, _, rfl⟩
                            case measure => simp [intOf]; omega
                          · have Z := hide (unhide SF ht)
                            have hd : (xt != pt) = true := by simpa [bne] using ht
                            clear SF SY ht
                            go_wp2_with fail
                            go_quiet (fail)
                            go_wp2_with fail
                            go_ret
                            exact ⟨ret_bool (unhide Z), by subst hbx; exact bel_drewN (bel_drewN (unhide B3) _) _⟩
                        · have hj : r - 1 < sws.length := by omega
                          obtain ⟨vb', vo', ea', y0, y1, y2, y3⟩ := (unhide VW).2 (r - 1) hj
                          cases ea'
                          have hg : decide ((0 : Int) < (r : Int)) = true := decide_eq_true (by omega)
                          have hg1 : decide (0 < r) = true := decide_eq_true (by omega)
                          have hi1 : ((r : Int) - 1).toNat = r - 1 := by omega
                          have hi2 : (0 : Int) ≤ (r : Int) - 1 := by omega
                          have hi4 : (1 : Int) ≤ (r : Int) := by omega
                          have hwr : IntKind.i64.wrap ((r : Int) - 1) = (r : Int) - 1 := by rw [IntKind.wrap_i64]; omega
                          have hi3 : (r : Int) - 1 < (pn : Int) := by omega
                          have LT := hide (okVs_lt (unhide HOK) hr2 (by omega))
                          have TP := unhide hT (r - 1) hj (by omega)
                          clear hr0 hT
                          generalize sws[r] = xd at *
                          generalize sws[r - 1] = yd at *
                          obtain ⟨xk, xt, xv, xg⟩ := xd
                          obtain ⟨yk, yt, yv, yg⟩ := yd
                          simp only at v0 v1 SF SY y0 TP
                          clear v2 v3 y1 y2 y3
                          by_cases ht : xt = pt
                          · have hne : (yk.toList == xk.toList) = false := vs_ne (ltV_other (unhide LT) (by show yt = xt; rw [TP, ht]))
                            subst ht
                            have Z := hide (unhide SY rfl)
                            have hd : (xt != xt) = false := by simp
                            clear SF SY LT TP
                            go_wp2_with fail
                            go_quiet (fail)
                            go_wp2_with fail
                            go_roundw
                            case rel => exact ⟨r + 1, by omega, by go_num, unhide Z, _, rfl⟩
                            case measure => simp [intOf]; omega
                          · have Z := hide (unhide SF ht)
                            have hd : (xt != pt) = true := by simpa [bne] using ht
                            clear SF SY ht LT TP
                            go_wp2_with fail
                            go_quiet (fail)
                            go_wp2_with fail
                            go_ret
                            exact ⟨ret_bool (unhide Z), by subst hbx; exact bel_drewN (bel_drewN (unhide B3) _) _⟩
                      · obtain rfl : r = pn := by omega
                        have hri : ¬ (r : Int) < (r : Int) := by omega
                        have Z := hide (unhide FY (by rw [unhide EO, unhide HOK, oneT_true fun i hi => unhide hT i hi (by have := unhide LW; omega)]; rfl))
                        clear FZ FY EO hT
                        go_wp2_with fail
                        go_roundw
                        case rel => exact ⟨m + 1, by omega, by go_num, unhide Z, bel_drewN (unhide B3) _, ⟨z0, z3⟩, by show bx < w3.heap.size; omega⟩
                        case measure => simp [intOf]; omega
            · obtain rfl : m = 4 := by omega
              have Z := hide (show true = okVsD d by rw [unhide E, all_true fun i hi => unhide hA i hi (by have := (unhide EQ).2.2; omega)])
              go_wp2_with fail
              go_ret
              exact ⟨ret_bool (unhide Z), by subst hbx; exact unhide hB⟩
end Go.Proofs.YtfajenejngddeaaGreat

namespace Go.Proofs.YtfajenejngddeaaGreat
open Go.RowKit
theorem far_new {B : Nat} {w : World} {s : Sl} {hs : List SeH} (h : SeOwn w B (.slice s.a s.n s.c) hs) {i : Nat} (hi : w.heap.size ≤ i) : ¬ NBl (.slice s.a s.n s.c) (hs.map seEl) i := fun hn => by
  have := (h.lt i hn).2
  omega
set_option maxRecDepth 100000 in
/-- The list of versions under way begins anew. -/
theorem VgSt.litV {wr : World} {B tb : Nat} {next : Int} {l f s : Sl} {hs : List SeH} {ls : List VerD} {fs : List FenD} (h : VgSt wr B tb next l f s hs ls fs) (hB : B ≤ wr.heap.size) : VgSt ((wr.alloc (.cells #[] 39)).setCell ⟨tb, 1, none⟩ (.slice (some ⟨wr.heap.size, 0, none⟩) 0 0)) B tb next ⟨some ⟨wr.heap.size, 0, none⟩, 0, 0⟩ f s hs [] fs := by
  have bA := (Below.refl wr.heap.size wr).alloc (Nat.le_refl _) (.cells #[] 39)
  have hA := h.below bA
  have hw := set1_wr (wr.alloc (.cells #[] 39)) tb 1 (.slice (some ⟨wr.heap.size, 0, none⟩) 0 0)
  have ov : VOwns (wr.alloc (.cells #[] 39)) B (.slice (some ⟨wr.heap.size, 0, none⟩) 0 0) [] := gd_base (nil_lit (w := wr) 39 4) hB
  refine ⟨own_keep ov hA.box (by decide) hw, own_keep hA.fo hA.box (by decide) hw, hA.so.keep hw (fun i hi e => by subst e; exact se_box hA.so hA.box (by decide) (by decide) hi), fun i hi => ?_, ?_, h.tge⟩
  · injection hi with hi
    subst hi
    exact far_new h.so (Nat.le_refl _)
  · have := heap_set hA.box 1 (.slice (some ⟨wr.heap.size, 0, none⟩) 0 0)
    simpa using this
set_option maxRecDepth 100000 in
theorem VgSt.litF {wr : World} {B tb : Nat} {next : Int} {l f s : Sl} {hs : List SeH} {ls : List VerD} {fs : List FenD} (h : VgSt wr B tb next l f s hs ls fs) (hB : B ≤ wr.heap.size) : VgSt ((wr.alloc (.cells #[] 90)).setCell ⟨tb, 2, none⟩ (.slice (some ⟨wr.heap.size, 0, none⟩) 0 0)) B tb next l ⟨some ⟨wr.heap.size, 0, none⟩, 0, 0⟩ s hs ls [] := by
  have bA := (Below.refl wr.heap.size wr).alloc (Nat.le_refl _) (.cells #[] 90)
  have hA := h.below bA
  have hw := set1_wr (wr.alloc (.cells #[] 90)) tb 2 (.slice (some ⟨wr.heap.size, 0, none⟩) 0 0)
  have ov : FOwns (wr.alloc (.cells #[] 90)) B (.slice (some ⟨wr.heap.size, 0, none⟩) 0 0) [] := gd_base (nil_lit (w := wr) 90 3) hB
  refine ⟨own_keep hA.vo hA.box (by decide) hw, own_keep ov hA.box (by decide) hw, hA.so.keep hw (fun i hi e => by subst e; exact se_box hA.so hA.box (by decide) (by decide) hi), h.far, ?_, h.tge⟩
  have := heap_set hA.box 2 (.slice (some ⟨wr.heap.size, 0, none⟩) 0 0)
  simpa using this
set_option maxRecDepth 100000 in
/-- A version appended. -/
theorem VgSt.appV {wr : World} {B tb : Nat} {next : Int} {l f s : Sl} {hs : List SeH} {ls : List VerD} {fs : List FenD} (h : VgSt wr B tb next l f s hs ls fs) (x : VerD) (hv : l.a ≠ none) (hz : ls.length ≤ 1000000) (hB : B ≤ wr.heap.size) :
    ∃ q : Sl, ∃ w5, q.a ≠ none ∧ (Builtin.append_ #[23, 23] 23 #[.slice l.a l.n l.c, .slice (some ⟨wr.heap.size, 0, none⟩) 1 1]).run Tryz.prog (wr.alloc (.cells #[.string x.k, .int .i64 x.t, .string x.v, .bool x.g] 39)) = .ok (.slice q.a q.n q.c) w5 ∧ VgSt (w5.setCell ⟨tb, 1, none⟩ (.slice q.a q.n q.c)) B tb next q f s hs (ls ++ [x]) fs ∧ Below B wr (w5.setCell ⟨tb, 1, none⟩ (.slice q.a q.n q.c)) ∧ w5.heap[tb]? = some (.cells (vzC next l f s) 27 (0, 0)) := by
  have bA := (Below.refl wr.heap.size wr).alloc (Nat.le_refl _) (.cells #[.string x.k, .int .i64 x.t, .string x.v, .bool x.g] 39)
  have hA := h.below bA
  obtain ⟨g, k, w5, hr, ho, hg, loc⟩ := v_appS (c := 1) 23 hA.vo (fun e => by injection e with e; exact hv e) (vrow_one wr x) (fun e => by cases e) (by omega) (Nat.le_trans hB bA.size)
  have hw := WrB.of_grown hg
  have k5 := (hw.block tb (blk_lt hA.box) (own_box hA.vo hA.box (by decide))).trans hA.box
  have f5 := rr_owns_wr hA.fo hw (fun i hi => own_other hA.fo hA.vo (by decide) hi)
  have s5 := hA.so.keep hw (fun i hi e => hA.far i e hi)
  have hS := set1_wr w5 tb 1 (.slice (some ⟨g, 0, none⟩) (ls.length + 1) k)
  have bB := bA.mono hB
  have b5 := bB.trans (WrB.below hw (fun i hi => (hA.vo.lt i hi).1) (Nat.le_trans hB bA.size))
  refine ⟨⟨some ⟨g, 0, none⟩, ls.length + 1, k⟩, w5, by simp, hr, ⟨own_keep ho k5 (by decide) hS, own_keep f5 k5 (by decide) hS, s5.keep hS (fun i hi e => by subst e; exact se_box s5 k5 (by decide) (by decide) hi), fun i hi => ?_, ?_, h.tge⟩, b5.trans (WrB.below hS (fun i e => by rw [e]; exact h.tge) (Nat.le_trans hB b5.size)), k5⟩
  · injection hi with hi
    subst hi
    rcases loc with e | e
    · exact hA.far _ e.symm
    · exact far_new hA.so (by show _ ≤ g; omega)
  · have := heap_set k5 1 (.slice (some ⟨g, 0, none⟩) (ls.length + 1) k)
    simpa using this
set_option maxRecDepth 100000 in
/-- A fence appended. -/
theorem VgSt.appF {wr : World} {B tb : Nat} {next : Int} {l f s : Sl} {hs : List SeH} {ls : List VerD} {fs : List FenD} (h : VgSt wr B tb next l f s hs ls fs) (x : FenD) (hz : fs.length ≤ 1000000) (hB : B ≤ wr.heap.size) :
    ∃ q : Sl, ∃ w5, (Builtin.append_ #[24, 24] 24 #[.slice f.a f.n f.c, .slice (some ⟨wr.heap.size, 0, none⟩) 1 1]).run Tryz.prog (wr.alloc (.cells #[.string x.f, .string x.u, .int .i64 x.t] 90)) = .ok (.slice q.a q.n q.c) w5 ∧ VgSt (w5.setCell ⟨tb, 2, none⟩ (.slice q.a q.n q.c)) B tb next l q s hs ls (fs ++ [x]) ∧ Below B wr w5 ∧ Below B wr (w5.setCell ⟨tb, 2, none⟩ (.slice q.a q.n q.c)) ∧ w5.heap[tb]? = some (.cells (vzC next l f s) 27 (0, 0)) := by
  have bA := (Below.refl wr.heap.size wr).alloc (Nat.le_refl _) (.cells #[.string x.f, .string x.u, .int .i64 x.t] 90)
  have hA := h.below bA
  obtain ⟨q, w5, hr, ho, hg⟩ := f_app1 x h.fo hz hB
  have hw := WrB.of_grown hg
  have k5 := (hw.block tb (blk_lt hA.box) (own_box hA.fo hA.box (by decide))).trans hA.box
  have v5 := rr_owns_wr hA.vo hw (fun i hi => own_other hA.vo hA.fo (by decide) hi)
  have s5 := hA.so.keep hw (fun i hi e => by
    obtain ⟨cur, hc⟩ := own_kind hA.fo e
    exact se_box hA.so hc (by decide) (by decide) hi)
  have hS := set1_wr w5 tb 2 (.slice q.a q.n q.c)
  have bB := bA.mono hB
  have b5 := bB.trans (WrB.below hw (fun i hi => (hA.fo.lt i hi).1) (Nat.le_trans hB bA.size))
  refine ⟨q, w5, hr, ⟨own_keep v5 k5 (by decide) hS, own_keep ho k5 (by decide) hS, s5.keep hS (fun i hi e => by subst e; exact se_box s5 k5 (by decide) (by decide) hi), h.far, ?_, h.tge⟩, b5, b5.trans (WrB.below hS (fun i e => by rw [e]; exact h.tge) (Nat.le_trans hB b5.size)), k5⟩
  have := heap_set k5 2 (.slice q.a q.n q.c)
  simpa using this
/-- Below what a literal stored into a box has left. -/
theorem bel_lit {B tb k : Nat} {wr : World} (hB : B ≤ wr.heap.size) (ht : B ≤ tb) (cs : Array Value) (t : TypeId) (v : Value) : Below B wr ((wr.alloc (.cells cs t)).setCell ⟨tb, k, none⟩ v) := ((Below.refl B wr).alloc hB (.cells cs t)).setCell (p := ⟨tb, k, none⟩) ht v
theorem VgSt.new {w : World} {B : Nat} {l f s : Sl} {hs : List SeH} {d : VsD} (h : VzOwn w B l f s hs d) (hB : B ≤ w.heap.size) : VgSt (w.alloc (.cells (vzC d.next l f s) 27)) B w.heap.size d.next l f s hs d.list d.fen := by
  have hA := h.below ((Below.refl w.heap.size w).alloc (Nat.le_refl _) (.cells (vzC d.next l f s) 27))
  exact ⟨hA.vo, hA.fo, hA.so, hA.far, heap_alloc_new _ _, hB⟩
end Go.Proofs.YtfajenejngddeaaGreat

namespace Go.Proofs.YtfajenejngddeaaGreat
open Go.RowKit

set_option maxRecDepth 100000 in
set_option maxHeartbeats 8000000 in
theorem specPrune_any (d : VsD) (t : Int) (l f s : Sl) (hs : List SeH) (w : World) (hI : VzIn w l f s hs d) (hl : VsFew l f s (hs.map seR)) :
    Calls Tryz.prog 13 #[.agg (vzC d.next l f s), .int .i64 t] w fun e w' => PrRes d t w e w' := by
  obtain ⟨W, hW⟩ : ∃ W, W = (w.alloc (.cells (vzC d.next l f s) 27)).alloc (.cells #[.int .i64 0, .slice none 0 0, .slice none 0 0, .slice none 0 0] 27) := ⟨_, rfl⟩
  obtain ⟨b1, kv, kr, hz⟩ := twoBx hW
  have hz0 : w.heap.size < W.heap.size := by omega
  have hz1 : w.heap.size + 1 < W.heap.size := by omega
  have CO := hide (specVersionsOK_any l f s (hs.map seR) d W ((vs_of_vz hI).below b1) hl)
  have BH := hide b1
  have HI := hide hI
  have HL := hide hl
  obtain ⟨la, ln, lc⟩ := l
  obtain ⟨fa, fn, fc⟩ := f
  obtain ⟨sa, sn, sc⟩ := s
  unfold vzC at *
  simp only at hW kv CO ⊢
  have KV := hide kv
  have KR := hide kr
  have v0 := (heap_at kv 0).1
  have v1 := (heap_at kv 1).1
  have v2 := (heap_at kv 2).1
  have v3 := (heap_at kv 3).1
  have y0 := (heap_at kr 0).1
  have y1 := (heap_at kr 1).1
  have y2 := (heap_at kr 2).1
  have y3 := (heap_at kr 3).1
  have yf0 := (heap_at kr 0).2
  have yf1 := (heap_at kr 1).2
  have yf2 := (heap_at kr 2).2
  have yf3 := (heap_at kr 3).2
  clear hI hl b1 hz kv kr
  go_enter Tryz.func13, Tryz.ntmps13
  go_wp2_with fail
  rw [← hW]
  clear hW
  refine (unhide CO).mono ?_
  rintro e w1 ⟨rfl, hb1⟩
  clear CO v0 v1 v2 v3 y0 y1 y2 y3 yf0 yf1 yf2 yf3
  have hw1 := hb1.size
  have B1 := hide hb1
  have kr := (hb1.block (w.heap.size + 1) hz1).trans (unhide KR)
  have y0 := (heap_at kr 0).1
  have y1 := (heap_at kr 1).1
  have y2 := (heap_at kr 2).1
  have y3 := (heap_at kr 3).1
  have yf0 := (heap_at kr 0).2
  have yf1 := (heap_at kr 1).2
  have yf2 := (heap_at kr 2).2
  have yf3 := (heap_at kr 3).2
  clear hb1
  cases hok : okVsD d with
  | false =>
    have RES := hide (pr_bad (t := t) (w := w) (w' := ((((w1.setCell ⟨w.heap.size + 1, 0, none⟩ (.int .i64 0)).setCell ⟨w.heap.size + 1, 1, none⟩ (.slice none 0 0)).setCell ⟨w.heap.size + 1, 2, none⟩ (.slice none 0 0)).setCell ⟨w.heap.size + 1, 3, none⟩ (.slice none 0 0))) hok (bel_sv4 ((unhide BH).trans ((unhide B1).mono (unhide BH).size)) (by omega) _ _ _ _))
    clear kr
    go_wp2_with fail
    refine bodyPost_ret (v := .tuple #[.agg #[.int .i64 0, .slice none 0 0, .slice none 0 0, .slice none 0 0], .int .i64 1]) (by simp [results, Tryz.results13, go_sem, *]) rfl ?_
    exact unhide RES
  | true =>
    clear kr y0 y1 y2 y3 yf0 yf1 yf2 yf3
    have TOP := hide (show d.list.length ≤ 4096 ∧ d.fen.length ≤ 4096 ∧ d.ses.length = 4 by
      have h := hok
      unfold okVsD topK at h
      simp only [Bool.and_eq_true, decide_eq_true_eq] at h
      exact ⟨h.1.2.2.1, h.1.2.2.2.1, h.1.2.2.2.2⟩)
    have kv := ((unhide B1).block w.heap.size hz0).trans (unhide KV)
    have v0 := (heap_at kv 0).1
    have LN := hide (unhide HI).len
    have L0 := hide (leTo_zero d)
    have LS := hide (fun j hj => leTo_step d (j := j) hj)
    have LA := hide (leTo_all d)
    have hsn4 : sn ≤ 4 := by have h1 := (unhide LN).1; have h2 := (unhide LN).2; have h3 := (unhide TOP).2.2; simp only at h1; omega
    have hln4 : ln ≤ 4096 := by have h := (unhide HI).vr.1; simp only at h; have := (unhide TOP).1; omega
    have hfn4 : fn ≤ 4096 := by have h := (unhide HI).fr.1; simp only at h; have := (unhide TOP).2.1; omega
    have OKH := hide hok
    clear kv hok
    go_wp2_with fail
    clear v0
    go_loopw [6, 7] (fun lv iv wr => ∃ j : Nat, lv = .int .i64 (leTo d j) ∧ iv = .int .i64 (j : Int) ∧ j ≤ sn ∧ Hid (Below W.heap.size W wr)) (fun _ iv _ => sn - (intOf iv).toNat)
    case atStart => exact ⟨0, by rw [unhide L0], rfl, Nat.zero_le _, B1⟩
    case round =>
      clear B1
      obtain ⟨j, rfl, rfl, hj, hB⟩ := hrel
      have kv := ((unhide hB).block w.heap.size hz0).trans (unhide KV)
      have v3 := (heap_at kv 3).1
      by_cases hlt : j < sn
      · have hj2 : j < hs.length := by rw [(unhide LN).1]; exact hlt
        have hkn : (j : Int) < (sn : Int) := by omega
        obtain ⟨b, off, hba, -, c0, c1, -⟩ := SeIn.cells ((unhide HI).below ((unhide BH).trans ((unhide hB).mono (unhide BH).size))).sr hj2
        subst hba
        obtain ⟨hd, hxe⟩ := (unhide HI).at hj2
        have Z := hide (unhide LS j hd)
        rw [← hxe] at Z
        generalize hs[j] = x at *
        obtain ⟨⟨o, xt, wl⟩, ws⟩ := x
        simp only at c0 c1 Z
        clear kv hxe
        cases o with
        | true =>
          have ZT := hide (show leTo d (j + 1) = min (leTo d j) xt by rw [unhide Z, if_pos rfl])
          generalize leTo d j = lj at *
          have ZM := unhide ZT
          clear Z ZT
          go_wp2_with fail
          go_roundw
          case rel => exact ⟨j + 1, by first | rw [ZM] | (rw [ZM]; rfl) | (rw [ZM]; simp [min_def]), by go_num, by omega, hB⟩
          case measure => simp [intOf]; omega
        | false =>
          have ZT := hide (show leTo d (j + 1) = leTo d j by rw [unhide Z]; simp)
          clear Z
          go_wp2_with fail
          go_roundw
          case rel => exact ⟨j + 1, by rw [unhide ZT], by go_num, by omega, hB⟩
          case measure => simp [intOf]; omega
      · obtain rfl : sn = j := by omega
        have hLL : leTo d sn = leastV d := by rw [← unhide LA, ← (unhide LN).2, (unhide LN).1]
        rw [hLL]
        clear hLL kv
        generalize hle : leastV d = le at *
        have LE := hide hle
        clear hle
        by_cases hge : le ≤ t
        · have kr := ((unhide hB).block (w.heap.size + 1) hz1).trans (unhide KR)
          have y0 := (heap_at kr 0).1
          have y1 := (heap_at kr 1).1
          have y2 := (heap_at kr 2).1
          have y3 := (heap_at kr 3).1
          have yf0 := (heap_at kr 0).2
          have yf1 := (heap_at kr 1).2
          have yf2 := (heap_at kr 2).2
          have yf3 := (heap_at kr 3).2
          have RES := hide (pr_state (t := t) (w := w) (w' := ((((wr.setCell ⟨w.heap.size + 1, 0, none⟩ (.int .i64 0)).setCell ⟨w.heap.size + 1, 1, none⟩ (.slice none 0 0)).setCell ⟨w.heap.size + 1, 2, none⟩ (.slice none 0 0)).setCell ⟨w.heap.size + 1, 3, none⟩ (.slice none 0 0))) (unhide OKH) (by rw [unhide LE]; exact hge) (bel_sv4 ((unhide BH).trans ((unhide hB).mono (unhide BH).size)) (by omega) _ _ _ _))
          clear kr
          go_wp2_with fail
          refine bodyPost_ret (v := .tuple #[.agg #[.int .i64 0, .slice none 0 0, .slice none 0 0, .slice none 0 0], .int .i64 8]) (by simp [results, Tryz.results13, go_sem, *]) rfl ?_
          exact unhide RES
        have GE := hide hge
        have kv := ((unhide hB).block w.heap.size hz0).trans (unhide KV)
        have v0 := (heap_at kv 0).1
        have v1 := (heap_at kv 1).1
        have v2 := (heap_at kv 2).1
        have v3 := (heap_at kv 3).1
        have IW := (unhide HI).below ((unhide BH).trans ((unhide hB).mono (unhide BH).size))
        have CALL := hide (l06Own_any d ⟨la, ln, lc⟩ ⟨fa, fn, fc⟩ ⟨sa, sn, sc⟩ hs wr IW (by have := IW.vr.1; have := (unhide TOP).1; simp only at *; omega) (by have := IW.fr.1; have := (unhide TOP).2.1; simp only at *; omega) (by have := IW.len; have := (unhide TOP).2.2; simp only at *; omega) (fun h hh => by
          obtain ⟨k, hk, rfl⟩ := List.getElem_of_mem hh
          have h1 := (unhide HL).w k (by simpa using hk)
          rw [List.getElem_map] at h1
          exact h1))
        have RV := hide (show VRow w la ln d.list from (unhide HI).vr)
        have RF := hide (show FRow w fa fn d.fen from (unhide HI).fr)
        clear kv IW
        unfold vzC at CALL
        simp only at CALL
        go_wp2_with fail
        refine (unhide CALL).mono ?_
        rintro e w2 ⟨⟨la1, ln1, lc1⟩, ⟨fa1, fn1, fc1⟩, ⟨sa1, sn1, sc1⟩, hs1, rfl, hO, hb2⟩
        clear v0 v1 v2 v3 CALL hge
        unfold vzC
        simp only
        have hW2 : W.heap.size ≤ w2.heap.size := Nat.le_trans (unhide hB).size hb2.size
        have SSH := hide hO.ss
        have G0 := hide (VgSt.new (hO.dn (unhide hB).size) hW2)
        have B0 := hide (((unhide hB).trans (hb2.mono (unhide hB).size)).alloc hW2 (.cells (vzC d.next ⟨la1, ln1, lc1⟩ ⟨fa1, fn1, fc1⟩ ⟨sa1, sn1, sc1⟩) 27))
        unfold vzC at G0 B0
        simp only at G0 B0
        have hWb := hW2
        clear hO hb2 hB
        go_upto_region 12 with fail
        generalize w2.alloc (.cells #[.int .i64 d.next, .slice la1 ln1 lc1, .slice fa1 fn1 fc1, .slice sa1 sn1 sc1] 27) = u at *
        generalize w2.heap.size = tb at *
        have hu := (unhide B0).size
        have bx := ((unhide G0).below ((Below.refl u.heap.size u).alloc (Nat.le_refl _) (.cells #[] 39))).box
        unfold vzC at bx
        have t1 := (heap_at bx 1).1
        have p1 := (heap_at bx 1).2
        have G1 := hide ((unhide G0).litV hu)
        have B1 := hide ((unhide B0).trans (bel_lit (k := 1) hu hWb #[] 39 (.slice (some ⟨u.heap.size, 0, none⟩) 0 0)))
        clear bx G0 B0
        go_wp2_with fail
        clear t1 p1
        go_loopw [9] (fun i wr => ∃ (j : Nat) (l2 : Sl), i = .int .i64 (j : Int) ∧ j ≤ ln ∧ l2.a ≠ none ∧ Hid (VgSt wr W.heap.size tb d.next l2 ⟨fa1, fn1, fc1⟩ ⟨sa1, sn1, sc1⟩ hs1 (prTo d.list t j) d.fen) ∧ Hid (Below W.heap.size W wr)) (fun i _ => ln - (intOf i).toNat)
        case atStart => exact ⟨0, _, rfl, Nat.zero_le _, by simp, G1, B1⟩
        case round =>
          clear G1 B1
          obtain ⟨j, ⟨l2a, l2n, l2c⟩, rfl, hj, hne, hG, hB⟩ := hrel
          have kv := ((unhide hB).block w.heap.size hz0).trans (unhide KV)
          have v1 := (heap_at kv 1).1
          clear kv
          by_cases hlt : j < ln
          case neg =>
            obtain rfl : j = ln := by omega
            rw [show prTo d.list t j = prL d.list t from by unfold prL; rw [(unhide RV).1]] at hG
            have hu := (unhide hB).size
            have bx := ((unhide hG).below ((Below.refl wr.heap.size wr).alloc (Nat.le_refl _) (.cells #[] 90))).box
            unfold vzC at bx
            have t2 := (heap_at bx 2).1
            have p2 := (heap_at bx 2).2
            have G1 := hide ((unhide hG).litF hu)
            have B1 := hide ((unhide hB).trans (bel_lit (k := 2) hu hWb #[] 90 (.slice (some ⟨wr.heap.size, 0, none⟩) 0 0)))
            simp only at t2
            clear bx hG hB
            go_wp2_with fail
            clear t2 p2 v1
            go_loopw [12] (fun i wr => ∃ (k : Nat) (f2 : Sl), i = .int .i64 (k : Int) ∧ k ≤ fn ∧ Hid (VgSt wr W.heap.size tb d.next ⟨l2a, l2n, l2c⟩ f2 ⟨sa1, sn1, sc1⟩ hs1 (prL d.list t) (prF (d.fen.take k) le)) ∧ Hid (Below W.heap.size W wr)) (fun i _ => fn - (intOf i).toNat)
            case atStart => exact ⟨0, _, rfl, Nat.zero_le _, G1, B1⟩
            case round =>
              clear G1 B1
              obtain ⟨k, ⟨f2a, f2n, f2c⟩, rfl, hk, hG, hB⟩ := hrel
              have kv := ((unhide hB).block w.heap.size hz0).trans (unhide KV)
              have v2 := (heap_at kv 2).1
              clear kv
              by_cases hlt3 : k < fn
              case neg =>
                obtain rfl : k = fn := by omega
                have kr := ((unhide hB).block (w.heap.size + 1) hz1).trans (unhide KR)
                have y0 := (heap_at kr 0).1
                have y1 := (heap_at kr 1).1
                have y2 := (heap_at kr 2).1
                have y3 := (heap_at kr 3).1
                have yf0 := (heap_at kr 0).2
                have yf1 := (heap_at kr 1).2
                have yf2 := (heap_at kr 2).2
                have yf3 := (heap_at kr 3).2
                have bx := (unhide hG).box
                unfold vzC at bx
                have z0 := (heap_at bx 0).1
                have z1 := (heap_at bx 1).1
                have z2 := (heap_at bx 2).1
                have z3 := (heap_at bx 3).1
                have ep : prV d t = ⟨d.next, prL d.list t, prF d.fen le, d.ses⟩ := by unfold prV; rw [if_pos ⟨unhide OKH, by rw [unhide LE]; exact Int.not_le.2 (unhide GE)⟩, unhide LE]
                have ec : prC d t = 0 := by unfold prC; rw [if_pos (unhide OKH), if_neg (by rw [unhide LE]; exact Int.not_le.2 (unhide GE))]
                have OWN : VzOwn wr W.heap.size ⟨l2a, l2n, l2c⟩ ⟨f2a, f2n, f2c⟩ ⟨sa1, sn1, sc1⟩ hs1 (prV d t) := by
                  have hf := (unhide hG).fo
                  rw [List.take_of_length_le (by rw [(unhide RF).1]; exact Nat.le_refl _)] at hf
                  rw [ep]
                  exact ⟨(unhide hG).vo, hf, (unhide hG).so, unhide SSH, (unhide hG).far⟩
                have hS := set4_wr wr (w.heap.size + 1) (.int .i64 d.next) (.slice l2a l2n l2c) (.slice f2a f2n f2c) (.slice sa1 sn1 sc1)
                have bR := (unhide BH).trans ((unhide hB).mono (Nat.le_of_lt hz0))
                have RES := hide (show PrRes d t w (.returned (.tuple #[.agg #[.int .i64 d.next, .slice l2a l2n l2c, .slice f2a f2n f2c, .slice sa1 sn1 sc1], .int .i64 0])) _ from ⟨⟨l2a, l2n, l2c⟩, ⟨f2a, f2n, f2c⟩, ⟨sa1, sn1, sc1⟩, hs1, by rw [ec, show (prV d t).next = d.next by rw [ep]], (OWN.wr hS (fun i e => by rw [e]; exact hz1)).dn (Nat.le_of_lt hz0), bR.trans (WrB.below hS (fun i e => by rw [e]; exact Nat.le_succ _) bR.size)⟩)
                clear kr bx OWN hS bR hG ep ec
                go_wp2_with fail
                refine bodyPost_ret (v := .tuple #[.agg #[.int .i64 d.next, .slice l2a l2n l2c, .slice f2a f2n f2c, .slice sa1 sn1 sc1], .int .i64 0]) (by simp [results, Tryz.results13, go_sem, *]) rfl ?_
                exact unhide RES
              have hk2 : k < d.fen.length := by rw [(unhide RF).1]; exact hlt3
              have hkn : (k : Int) < (fn : Int) := by omega
              have FS := hide (prF_step (m := le) hk2)
              have FL := hide (show (prF (d.fen.take k) le).length ≤ k by
                unfold prF
                refine Nat.le_trans (List.length_filter_le _ _) ?_
                rw [List.length_take]
                exact Nat.min_le_left _ _)
              have RW := ((unhide RF).below (unhide BH))
              obtain ⟨b, off, rfl, d0, d1, d2⟩ := RW.2 k hk2
              generalize d.fen[k] = x at *
              obtain ⟨pf, pu, pt⟩ := x
              simp only at d0 d1 d2 FS
              have hbW : b < W.heap.size := cell_lt d0
              have v2W := (heap_at (unhide KV) 2).1
              have SK := hide (show ∀ u, Below W.heap.size W u → (u.cell? ⟨w.heap.size, 2, none⟩ = some (.slice (some ⟨b, off, none⟩) fn fc) ∧ u.cell? ⟨b, off + k * 3, none⟩ = some (.string pf) ∧ u.cell? ⟨b, off + k * 3 + 1, none⟩ = some (.string pu) ∧ u.cell? ⟨b, off + k * 3 + 2, none⟩ = some (.int .i64 pt)) from fun u hu => ⟨(hu.cell (p := ⟨w.heap.size, 2, none⟩) hz0).trans v2W, (hu.cell (p := ⟨b, off + k * 3, none⟩) hbW).trans d0, (hu.cell (p := ⟨b, off + k * 3 + 1, none⟩) hbW).trans d1, (hu.cell (p := ⟨b, off + k * 3 + 2, none⟩) hbW).trans d2⟩)
              clear d0 d1 d2 RW v2W
              obtain ⟨-, -, -, c2⟩ := unhide SK _ (unhide hB)
              by_cases hpt : le < pt
              case neg =>
                have KP : prF (d.fen.take (k + 1)) le = prF (d.fen.take k) le := by rw [unhide FS, if_neg hpt]
                rw [← KP] at hG
                clear KP FS FL SK
                go_wp2_with fail
                go_roundw
                case rel => exact ⟨k + 1, _, by go_num, by omega, hG, hB⟩
                case measure => simp [intOf]; omega
              have KP : prF (d.fen.take (k + 1)) le = prF (d.fen.take k) le ++ [⟨pf, pu, pt⟩] := by rw [unhide FS, if_pos hpt]
              have GD := (unhide hG).below (Below.refl wr.heap.size wr).drew
              have BD := (unhide hB).drew
              obtain ⟨⟨qa, qn, qc⟩, w5, hr, G5, B5, B6, K5⟩ := GD.appF ⟨pf, pu, pt⟩ (by have := unhide FL; omega) BD.size
              rw [← KP] at G5
              have bx := GD.box
              have bxA := (GD.below ((Below.refl wr.drew.heap.size wr.drew).alloc (Nat.le_refl _) (.cells #[.string pf, .string pu, .int .i64 pt] 90))).box
              unfold vzC at bx bxA K5
              have T2 := hide (heap_at bx 2).1
              have T2A := hide (heap_at bxA 2).1
              have T5 := hide (heap_at K5 2)
              have GX := hide G5
              have BX := hide (BD.trans B6)
              have BY := hide (BD.trans B5)
              have BZ := hide (BD.alloc BD.size (.cells #[.string pf, .string pu, .int .i64 pt] 90))
              have B00 := hide BD
              have HR := hide hr
              simp only at T2 T2A T5 GX BX BY HR
              clear G5 B5 B6 K5 bx bxA hr GD BD KP FS FL hG hB
              go_upto_region 25 with fail
              clear c2 v2
              refine wp_region_held_drew (S := (fun u => (u.cell? ⟨w.heap.size, 2, none⟩ = some (.slice (some ⟨b, off, none⟩) fn fc) ∧ u.cell? ⟨b, off + k * 3, none⟩ = some (.string pf) ∧ u.cell? ⟨b, off + k * 3 + 1, none⟩ = some (.string pu) ∧ u.cell? ⟨b, off + k * 3 + 2, none⟩ = some (.int .i64 pt)))) (by kernel_rfl) (unhide SK _ (unhide B00)) (fun hHeld => ?_)
              generalize wr.drew = u0 at *
              refine anyH_take 0 124 (v := ?v1) rfl rfl (by kernel_rfl) (by kernel_rfl) (by kernel_rfl) (fun _ _ _ h => h) (by rfl) ?h1 hHeld ?r1
              case h1 => (intro w hSw; (try dsimp only at hSw); go_simp; try (with_reducible rfl))
              simp only [Act.put, List.setIfInBounds_toArray, List.set_cons_zero, List.set_cons_succ]
              refine anyH_take 2 126 (v := ?v2) rfl rfl (by kernel_rfl) (by kernel_rfl) (by kernel_rfl) (fun _ _ _ h => h) (by rfl) ?h2 hHeld ?r2
              case h2 => (intro w hSw; (try dsimp only at hSw); go_simp; try (with_reducible rfl))
              simp only [Act.put, List.setIfInBounds_toArray, List.set_cons_zero, List.set_cons_succ]
              refine anyH_take 3 127 (v := ?v3) rfl rfl (by kernel_rfl) (by kernel_rfl) (by kernel_rfl) (fun _ _ _ h => h) (by rfl) ?h3 hHeld ?r3
              case h3 => (intro w hSw; (try dsimp only at hSw); go_simp; try (with_reducible rfl))
              simp only [Act.put, List.setIfInBounds_toArray, List.set_cons_zero, List.set_cons_succ]
              refine anyH_take 4 128 (v := ?v4) rfl rfl (by kernel_rfl) (by kernel_rfl) (by kernel_rfl) (fun _ _ _ h => h) (by rfl) ?h4 hHeld ?r4
              case h4 => (intro w hSw; (try dsimp only at hSw); go_simp; try (with_reducible rfl))
              simp only [Act.put, List.setIfInBounds_toArray, List.set_cons_zero, List.set_cons_succ]
              refine anyH_take 5 129 (v := ?v5) rfl rfl (by kernel_rfl) (by kernel_rfl) (by kernel_rfl) (fun _ _ _ h => h) (by rfl) ?h5 hHeld ?r5
              case h5 => (intro w hSw; (try dsimp only at hSw); go_simp; try (with_reducible rfl))
              simp only [Act.put, List.setIfInBounds_toArray, List.set_cons_zero, List.set_cons_succ]
              refine anyH_take 6 130 (v := ?v6) rfl rfl (by kernel_rfl) (by kernel_rfl) (by kernel_rfl) (fun _ _ _ h => h) (by rfl) ?h6 hHeld ?r6
              case h6 => (intro w hSw; (try dsimp only at hSw); go_simp; try (with_reducible rfl))
              simp only [Act.put, List.setIfInBounds_toArray, List.set_cons_zero, List.set_cons_succ]
              refine wpAnyH_ready (rs := [1, 7]) (by kernel_rfl) (by simp) ?_
              refine AllReadyH.cons rfl (fun K hK => ?_) (AllReadyH.cons rfl (fun K hK => ?_) AllReadyH.nil)
              · have y := unhide T2
                go_simp
                clear y
                refine hK.out _ _ (hHeld) (fun hHeld => ?_)
                clear hK K
                refine wpAnyH_ready (rs := [7]) (by kernel_rfl) (by simp) ?_
                refine AllReadyH.cons rfl (fun K hK => ?_) AllReadyH.nil
                go_simp
                refine hK.out _ _ (unhide SK _ (unhide BZ)) (fun hHeld => ?_)
                clear hK K
                refine wpAnyH_ready (rs := [8]) (by kernel_rfl) (by simp) ?_
                refine AllReadyH.cons rfl (fun K hK => ?_) AllReadyH.nil
                refine us_stepApp rfl (.tmp 125) (.tmp 131) 24 rfl _ _ (.slice qa qn qc) w5 (by first | rfl | (simp [Act.eval]; done) | (simp [Act.eval, Act.put]; done)) (by first | rfl | (simp [Act.eval]; done) | (simp [Act.eval, Act.put]; done)) (unhide HR) ?_
                refine hK.out _ _ (unhide SK _ (unhide BY)) (fun hHeld => ?_)
                clear hK K
                refine anyH_take 9 133 (v := ?v7) rfl rfl (by kernel_rfl) (by kernel_rfl) (by kernel_rfl) (fun _ _ _ h => h) (by rfl) ?h7 hHeld ?r7
                case h7 => (intro w hSw; (try dsimp only at hSw); go_simp; try (with_reducible rfl))
                simp only [Act.put, List.setIfInBounds_toArray]
                refine wpAnyH_ready (rs := [10]) (by kernel_rfl) (by simp) ?_
                refine AllReadyH.cons rfl (fun K hK => ?_) AllReadyH.nil
                have y := (unhide T5).1
                have yf := (unhide T5).2
                go_simp
                clear y yf
                refine hK.out _ _ (unhide SK _ (unhide BX)) (fun hHeld => ?_)
                clear hK K
                refine wpAnyH_done (by kernel_rfl) ?_ _
                clear hHeld SK
                go_wp2_with fail
                go_roundw
                case rel => exact ⟨k + 1, _, by go_num, by omega, GX, BX⟩
                case measure => simp [intOf]; omega
              · go_simp
                refine hK.out _ _ (unhide SK _ (unhide BZ)) (fun hHeld => ?_)
                clear hK K
                refine wpAnyH_ready (rs := [1]) (by kernel_rfl) (by simp) ?_
                refine AllReadyH.cons rfl (fun K hK => ?_) AllReadyH.nil
                have y := unhide T2A
                go_simp
                clear y
                refine hK.out _ _ (hHeld) (fun hHeld => ?_)
                clear hK K
                refine wpAnyH_ready (rs := [8]) (by kernel_rfl) (by simp) ?_
                refine AllReadyH.cons rfl (fun K hK => ?_) AllReadyH.nil
                refine us_stepApp rfl (.tmp 125) (.tmp 131) 24 rfl _ _ (.slice qa qn qc) w5 (by first | rfl | (simp [Act.eval]; done) | (simp [Act.eval, Act.put]; done)) (by first | rfl | (simp [Act.eval]; done) | (simp [Act.eval, Act.put]; done)) (unhide HR) ?_
                refine hK.out _ _ (unhide SK _ (unhide BY)) (fun hHeld => ?_)
                clear hK K
                refine anyH_take 9 133 (v := ?v8) rfl rfl (by kernel_rfl) (by kernel_rfl) (by kernel_rfl) (fun _ _ _ h => h) (by rfl) ?h8 hHeld ?r8
                case h8 => (intro w hSw; (try dsimp only at hSw); go_simp; try (with_reducible rfl))
                simp only [Act.put, List.setIfInBounds_toArray]
                refine wpAnyH_ready (rs := [10]) (by kernel_rfl) (by simp) ?_
                refine AllReadyH.cons rfl (fun K hK => ?_) AllReadyH.nil
                have y := (unhide T5).1
                have yf := (unhide T5).2
                go_simp
                clear y yf
                refine hK.out _ _ (unhide SK _ (unhide BX)) (fun hHeld => ?_)
                clear hK K
                refine wpAnyH_done (by kernel_rfl) ?_ _
                clear hHeld SK
                go_wp2_with fail
                go_roundw
                case rel => exact ⟨k + 1, _, by go_num, by omega, GX, BX⟩
                case measure => simp [intOf]; omega
          have hj2 : j < d.list.length := by rw [(unhide RV).1]; exact hlt
          have hkn : (j : Int) < (ln : Int) := by omega
          have BW := (unhide BH).trans ((unhide hB).mono (unhide BH).size)
          have RW := (unhide RV).below BW
          have RN := hide RW
          obtain ⟨b, off, rfl, d0, d1, d2, d3⟩ := RW.2 j hj2
          have ST := hide (prTo_step (t := t) hj2)
          have NX := hide (show lastP d.list t j d.list[j] = match d.list[j + 1]? with | none => true | some y => !decide (y.k = d.list[j].k) || decide (t < y.t) from rfl)
          have PL := hide (prTo_len d.list t j)
          generalize hxx : d.list[j] = x at *
          clear hxx
          obtain ⟨xk, xt, xv, xg⟩ := x
          simp only at d0 d1 d2 d3 ST NX
          have bA : Below wr.heap.size wr (wr.alloc (.cells #[.string xk, .int .i64 xt, .string xv, .bool xg] 39)) := (Below.refl _ _).alloc (Nat.le_refl _) _
          have kA := heap_alloc_new wr (.cells #[.string xk, .int .i64 xt, .string xv, .bool xg] 39)
          have GA := hide ((unhide hG).below bA)
          have BA := hide ((unhide hB).trans (bA.mono (unhide hB).size))
          have RA := hide ((unhide RN).below bA)
          have KA := hide kA
          have v1A := (bA.cell (p := ⟨w.heap.size, 1, none⟩) (by have := (unhide hB).size; show w.heap.size < wr.heap.size; omega)).trans v1
          clear bA kA RW BW RN hG hB
          go_upto_region 17 with fail
          clear d0 d1 d2 d3 v1
          generalize wr.alloc (.cells #[.string xk, .int .i64 xt, .string xv, .bool xg] 39) = u1 at *
          generalize wr.heap.size = xb at *
          have x0 := (heap_at (unhide KA) 0).1
          have x1 := (heap_at (unhide KA) 1).1
          have x2 := (heap_at (unhide KA) 2).1
          have x3 := (heap_at (unhide KA) 3).1
          by_cases hend : j + 1 = ln
          · have hq1 : decide ((j : Int) + 1 = (ln : Int)) = true := decide_eq_true (by omega)
            have hq2 : ((j : Int) + 1 == (ln : Int)) = true := by simpa using hq1
            have hLP := hide (show lastP d.list t j ⟨xk, xt, xv, xg⟩ = true by rw [unhide NX, List.getElem?_eq_none (by rw [(unhide RV).1]; omega)])
            go_quiet (fail)
            have GQ := hide ((unhide GA).below (bel_drewN (Below.refl _ _) nq))
            have BQ := hide (bel_drewN (unhide BA) nq)
            have x0q : (u1.drewN nq).cell? ⟨xb, 0, none⟩ = some (.string xk) := x0
            have x1q : (u1.drewN nq).cell? ⟨xb, 1, none⟩ = some (.int .i64 xt) := x1
            have x2q : (u1.drewN nq).cell? ⟨xb, 2, none⟩ = some (.string xv) := x2
            have x3q : (u1.drewN nq).cell? ⟨xb, 3, none⟩ = some (.bool xg) := x3
            clear GA BA RA KA x0 x1 x2 x3 v1A
            generalize u1.drewN nq = u2 at *
            by_cases hxt : t < xt
            · have KP : prTo d.list t (j + 1) = prTo d.list t j ++ [⟨xk, xt, xv, xg⟩] := by
                rw [unhide ST, if_pos]
                show (decide (t < xt) || (lastP d.list t j ⟨xk, xt, xv, xg⟩ && !xg)) = true
                rw [decide_eq_true hxt]; rfl
              obtain ⟨⟨qa, qn, qc⟩, w5, hqn, hr, G5, B5, K5⟩ := (unhide GQ).appV ⟨xk, xt, xv, xg⟩ hne (by have := unhide PL; omega) (unhide BQ).size
              have bx := (unhide GQ).box
              unfold vzC at bx K5
              have t1 := (heap_at bx 1).1
              have t5 := (heap_at K5 1).1
              have p5 := (heap_at K5 1).2
              rw [← KP] at G5
              have GX := hide G5
              have BX := hide ((unhide BQ).trans B5)
              simp only at hr t1 t5 GX BX
              clear G5 B5 K5 bx KP GQ BQ ST PL
              go_wp2_with (at_builtin; refine ky_wpApp rfl (.tmp 102) (.tmp 104) 23 rfl _ _ _ w5 rfl rfl hr ?_)
              go_roundw
              case rel => exact ⟨j + 1, _, by go_num, by omega, hqn, GX, BX⟩
              case measure => simp [intOf]; omega
            cases xg with
            | false =>
              have KP : prTo d.list t (j + 1) = prTo d.list t j ++ [⟨xk, xt, xv, false⟩] := by
                rw [unhide ST, if_pos]
                show (decide (t < xt) || (lastP d.list t j ⟨xk, xt, xv, false⟩ && !false)) = true
                rw [unhide hLP]; simp
              obtain ⟨⟨qa, qn, qc⟩, w5, hqn, hr, G5, B5, K5⟩ := (unhide GQ).appV ⟨xk, xt, xv, false⟩ hne (by have := unhide PL; omega) (unhide BQ).size
              have bx := (unhide GQ).box
              unfold vzC at bx K5
              have t1 := (heap_at bx 1).1
              have t5 := (heap_at K5 1).1
              have p5 := (heap_at K5 1).2
              rw [← KP] at G5
              have GX := hide G5
              have BX := hide ((unhide BQ).trans B5)
              simp only at hr t1 t5 GX BX
              clear G5 B5 K5 bx KP GQ BQ ST PL
              go_wp2_with (at_builtin; refine ky_wpApp rfl (.tmp 102) (.tmp 104) 23 rfl _ _ _ w5 rfl rfl hr ?_)
              go_roundw
              case rel => exact ⟨j + 1, _, by go_num, by omega, hqn, GX, BX⟩
              case measure => simp [intOf]; omega
            | true =>
              have KP : prTo d.list t (j + 1) = prTo d.list t j := by
                rw [unhide ST, if_neg]
                show ¬ (decide (t < xt) || (lastP d.list t j ⟨xk, xt, xv, true⟩ && !true)) = true
                rw [decide_eq_false hxt, unhide hLP]; decide
              rw [← KP] at GQ
              clear KP ST PL
              go_wp2_with fail
              go_roundw
              case rel => exact ⟨j + 1, _, by go_num, by omega, hne, GQ, BQ⟩
              case measure => simp [intOf]; omega
          have hq1 : decide ((j : Int) + 1 = (ln : Int)) = false := decide_eq_false (by omega)
          have hq2 : ((j : Int) + 1 == (ln : Int)) = false := by simpa using hq1
          have hq3 : (j : Int) + 1 < (ln : Int) := by omega
          have hj3 : j + 1 < d.list.length := by rw [(unhide RV).1]; omega
          have NY := hide (show lastP d.list t j ⟨xk, xt, xv, xg⟩ = (!decide (d.list[j + 1].k = xk) || decide (t < d.list[j + 1].t)) by rw [unhide NX, List.getElem?_eq_getElem hj3])
          obtain ⟨b', off', he, e0, e1, -, -⟩ := (unhide RA).2 (j + 1) hj3
          simp only [Option.some.injEq, Addr.mk.injEq] at he
          obtain ⟨rfl, rfl, -⟩ := he
          generalize d.list[j + 1] = y at *
          obtain ⟨yk, yt, yv, yg⟩ := y
          simp only at e0 e1 NY
          clear NX
          by_cases hky : yk = xk
          case neg =>
            have hkb : (yk.toList == xk.toList) = false := by simpa using fun e => hky (toList_inj e)
            have hLP := hide (show lastP d.list t j ⟨xk, xt, xv, xg⟩ = true by rw [unhide NY, decide_eq_false hky]; rfl)
            clear NY
            go_quiet (fail)
            have GQ := hide ((unhide GA).below (bel_drewN (Below.refl _ _) nq))
            have BQ := hide (bel_drewN (unhide BA) nq)
            have x0q : (u1.drewN nq).cell? ⟨xb, 0, none⟩ = some (.string xk) := x0
            have x1q : (u1.drewN nq).cell? ⟨xb, 1, none⟩ = some (.int .i64 xt) := x1
            have x2q : (u1.drewN nq).cell? ⟨xb, 2, none⟩ = some (.string xv) := x2
            have x3q : (u1.drewN nq).cell? ⟨xb, 3, none⟩ = some (.bool xg) := x3
            clear GA BA RA KA x0 x1 x2 x3 v1A
            generalize u1.drewN nq = u2 at *
            by_cases hxt : t < xt
            · have KP : prTo d.list t (j + 1) = prTo d.list t j ++ [⟨xk, xt, xv, xg⟩] := by
                rw [unhide ST, if_pos]
                show (decide (t < xt) || (lastP d.list t j ⟨xk, xt, xv, xg⟩ && !xg)) = true
                rw [decide_eq_true hxt]; rfl
              obtain ⟨⟨qa, qn, qc⟩, w5, hqn, hr, G5, B5, K5⟩ := (unhide GQ).appV ⟨xk, xt, xv, xg⟩ hne (by have := unhide PL; omega) (unhide BQ).size
              have bx := (unhide GQ).box
              unfold vzC at bx K5
              have t1 := (heap_at bx 1).1
              have t5 := (heap_at K5 1).1
              have p5 := (heap_at K5 1).2
              rw [← KP] at G5
              have GX := hide G5
              have BX := hide ((unhide BQ).trans B5)
              simp only at hr t1 t5 GX BX
              clear G5 B5 K5 bx KP GQ BQ ST PL
              go_wp2_with (at_builtin; refine ky_wpApp rfl (.tmp 102) (.tmp 104) 23 rfl _ _ _ w5 rfl rfl hr ?_)
              go_roundw
              case rel => exact ⟨j + 1, _, by go_num, by omega, hqn, GX, BX⟩
              case measure => simp [intOf]; omega
            cases xg with
            | false =>
              have KP : prTo d.list t (j + 1) = prTo d.list t j ++ [⟨xk, xt, xv, false⟩] := by
                rw [unhide ST, if_pos]
                show (decide (t < xt) || (lastP d.list t j ⟨xk, xt, xv, false⟩ && !false)) = true
                rw [unhide hLP]; simp
              obtain ⟨⟨qa, qn, qc⟩, w5, hqn, hr, G5, B5, K5⟩ := (unhide GQ).appV ⟨xk, xt, xv, false⟩ hne (by have := unhide PL; omega) (unhide BQ).size
              have bx := (unhide GQ).box
              unfold vzC at bx K5
              have t1 := (heap_at bx 1).1
              have t5 := (heap_at K5 1).1
              have p5 := (heap_at K5 1).2
              rw [← KP] at G5
              have GX := hide G5
              have BX := hide ((unhide BQ).trans B5)
              simp only at hr t1 t5 GX BX
              clear G5 B5 K5 bx KP GQ BQ ST PL
              go_wp2_with (at_builtin; refine ky_wpApp rfl (.tmp 102) (.tmp 104) 23 rfl _ _ _ w5 rfl rfl hr ?_)
              go_roundw
              case rel => exact ⟨j + 1, _, by go_num, by omega, hqn, GX, BX⟩
              case measure => simp [intOf]; omega
            | true =>
              have KP : prTo d.list t (j + 1) = prTo d.list t j := by
                rw [unhide ST, if_neg]
                show ¬ (decide (t < xt) || (lastP d.list t j ⟨xk, xt, xv, true⟩ && !true)) = true
                rw [decide_eq_false hxt, unhide hLP]; decide
              rw [← KP] at GQ
              clear KP ST PL
              go_wp2_with fail
              go_roundw
              case rel => exact ⟨j + 1, _, by go_num, by omega, hne, GQ, BQ⟩
              case measure => simp [intOf]; omega
          have hkb : (yk.toList == xk.toList) = true := by rw [hky]; simp
          by_cases hyt : t < yt
          · have hdt : decide (t < yt) = true := decide_eq_true hyt
            have hLP := hide (show lastP d.list t j ⟨xk, xt, xv, xg⟩ = true by rw [unhide NY, hdt, Bool.or_true])
            clear NY
            go_quiet (fail)
            have GQ := hide ((unhide GA).below (bel_drewN (Below.refl _ _) nq))
            have BQ := hide (bel_drewN (unhide BA) nq)
            have x0q : (u1.drewN nq).cell? ⟨xb, 0, none⟩ = some (.string xk) := x0
            have x1q : (u1.drewN nq).cell? ⟨xb, 1, none⟩ = some (.int .i64 xt) := x1
            have x2q : (u1.drewN nq).cell? ⟨xb, 2, none⟩ = some (.string xv) := x2
            have x3q : (u1.drewN nq).cell? ⟨xb, 3, none⟩ = some (.bool xg) := x3
            clear GA BA RA KA x0 x1 x2 x3 v1A
            generalize u1.drewN nq = u2 at *
            by_cases hxt : t < xt
            · have KP : prTo d.list t (j + 1) = prTo d.list t j ++ [⟨xk, xt, xv, xg⟩] := by
                rw [unhide ST, if_pos]
                show (decide (t < xt) || (lastP d.list t j ⟨xk, xt, xv, xg⟩ && !xg)) = true
                rw [decide_eq_true hxt]; rfl
              obtain ⟨⟨qa, qn, qc⟩, w5, hqn, hr, G5, B5, K5⟩ := (unhide GQ).appV ⟨xk, xt, xv, xg⟩ hne (by have := unhide PL; omega) (unhide BQ).size
              have bx := (unhide GQ).box
              unfold vzC at bx K5
              have t1 := (heap_at bx 1).1
              have t5 := (heap_at K5 1).1
              have p5 := (heap_at K5 1).2
              rw [← KP] at G5
              have GX := hide G5
              have BX := hide ((unhide BQ).trans B5)
              simp only at hr t1 t5 GX BX
              clear G5 B5 K5 bx KP GQ BQ ST PL
              go_wp2_with (at_builtin; refine ky_wpApp rfl (.tmp 102) (.tmp 104) 23 rfl _ _ _ w5 rfl rfl hr ?_)
              go_roundw
              case rel => exact ⟨j + 1, _, by go_num, by omega, hqn, GX, BX⟩
              case measure => simp [intOf]; omega
            cases xg with
            | false =>
              have KP : prTo d.list t (j + 1) = prTo d.list t j ++ [⟨xk, xt, xv, false⟩] := by
                rw [unhide ST, if_pos]
                show (decide (t < xt) || (lastP d.list t j ⟨xk, xt, xv, false⟩ && !false)) = true
                rw [unhide hLP]; simp
              obtain ⟨⟨qa, qn, qc⟩, w5, hqn, hr, G5, B5, K5⟩ := (unhide GQ).appV ⟨xk, xt, xv, false⟩ hne (by have := unhide PL; omega) (unhide BQ).size
              have bx := (unhide GQ).box
              unfold vzC at bx K5
              have t1 := (heap_at bx 1).1
              have t5 := (heap_at K5 1).1
              have p5 := (heap_at K5 1).2
              rw [← KP] at G5
              have GX := hide G5
              have BX := hide ((unhide BQ).trans B5)
              simp only at hr t1 t5 GX BX
              clear G5 B5 K5 bx KP GQ BQ ST PL
              go_wp2_with (at_builtin; refine ky_wpApp rfl (.tmp 102) (.tmp 104) 23 rfl _ _ _ w5 rfl rfl hr ?_)
              go_roundw
              case rel => exact ⟨j + 1, _, by go_num, by omega, hqn, GX, BX⟩
              case measure => simp [intOf]; omega
            | true =>
              have KP : prTo d.list t (j + 1) = prTo d.list t j := by
                rw [unhide ST, if_neg]
                show ¬ (decide (t < xt) || (lastP d.list t j ⟨xk, xt, xv, true⟩ && !true)) = true
                rw [decide_eq_false hxt, unhide hLP]; decide
              rw [← KP] at GQ
              clear KP ST PL
              go_wp2_with fail
              go_roundw
              case rel => exact ⟨j + 1, _, by go_num, by omega, hne, GQ, BQ⟩
              case measure => simp [intOf]; omega
          · have hdt : decide (t < yt) = false := decide_eq_false hyt
            have hLP := hide (show lastP d.list t j ⟨xk, xt, xv, xg⟩ = false by rw [unhide NY, hdt, decide_eq_true hky]; rfl)
            clear NY
            go_quiet (fail)
            have GQ := hide ((unhide GA).below (bel_drewN (Below.refl _ _) nq))
            have BQ := hide (bel_drewN (unhide BA) nq)
            have x0q : (u1.drewN nq).cell? ⟨xb, 0, none⟩ = some (.string xk) := x0
            have x1q : (u1.drewN nq).cell? ⟨xb, 1, none⟩ = some (.int .i64 xt) := x1
            have x2q : (u1.drewN nq).cell? ⟨xb, 2, none⟩ = some (.string xv) := x2
            have x3q : (u1.drewN nq).cell? ⟨xb, 3, none⟩ = some (.bool xg) := x3
            clear GA BA RA KA x0 x1 x2 x3 v1A
            generalize u1.drewN nq = u2 at *
            by_cases hxt : t < xt
            · have KP : prTo d.list t (j + 1) = prTo d.list t j ++ [⟨xk, xt, xv, xg⟩] := by
                rw [unhide ST, if_pos]
                show (decide (t < xt) || (lastP d.list t j ⟨xk, xt, xv, xg⟩ && !xg)) = true
                rw [decide_eq_true hxt]; rfl
              obtain ⟨⟨qa, qn, qc⟩, w5, hqn, hr, G5, B5, K5⟩ := (unhide GQ).appV ⟨xk, xt, xv, xg⟩ hne (by have := unhide PL; omega) (unhide BQ).size
              have bx := (unhide GQ).box
              unfold vzC at bx K5
              have t1 := (heap_at bx 1).1
              have t5 := (heap_at K5 1).1
              have p5 := (heap_at K5 1).2
              rw [← KP] at G5
              have GX := hide G5
              have BX := hide ((unhide BQ).trans B5)
              simp only at hr t1 t5 GX BX
              clear G5 B5 K5 bx KP GQ BQ ST PL
              go_wp2_with (at_builtin; refine ky_wpApp rfl (.tmp 102) (.tmp 104) 23 rfl _ _ _ w5 rfl rfl hr ?_)
              go_roundw
              case rel => exact ⟨j + 1, _, by go_num, by omega, hqn, GX, BX⟩
              case measure => simp [intOf]; omega
            have KP : prTo d.list t (j + 1) = prTo d.list t j := by
              rw [unhide ST, if_neg]
              show ¬ (decide (t < xt) || (lastP d.list t j ⟨xk, xt, xv, xg⟩ && !xg)) = true
              rw [decide_eq_false hxt, unhide hLP]; simp
            rw [← KP] at GQ
            clear KP ST PL
            go_wp2_with fail
            go_roundw
            case rel => exact ⟨j + 1, _, by go_num, by omega, hne, GQ, BQ⟩
            case measure => simp [intOf]; omega
end Go.Proofs.YtfajenejngddeaaGreat

namespace Go.Proofs.YtfajenejngddeaaGreat
open Go.RowKit

theorem getD_is {α : Type} {xs : List α} {d : α} {i : Nat} (h : i < xs.length) : xs.getD i d = xs[i] := by simp [List.getD, h]
def gx (xs : List Int) (i : Nat) : Int := xs.getD i 0
theorem gx_at {xs : List Int} {i : Nat} (h : i < xs.length) : gx xs i = xs[i] := by unfold gx; rw [getD_is h]
/-- Two changed for each other. -/
def swL (xs : List Int) (i j : Nat) : List Int := (xs.set i (gx xs j)).set j (gx xs i)
theorem swL_len (xs : List Int) (i j : Nat) : (swL xs i j).length = xs.length := by simp [swL]
theorem swL_at {xs : List Int} {i j k : Nat} (hi : i < xs.length) (hj : j < xs.length) : gx (swL xs i j) k = if k = j then gx xs i else if k = i then gx xs j else gx xs k := by
  unfold swL gx
  simp only [List.getD]
  by_cases h1 : k = j
  · subst h1
    rw [if_pos rfl, List.getElem?_set_self (by simpa using hj)]
    rfl
  · rw [if_neg h1, List.getElem?_set_ne (fun e => h1 e.symm)]
    by_cases h2 : k = i
    · subst h2
      rw [if_pos rfl, List.getElem?_set_self hi]
      rfl
    · rw [if_neg h2, List.getElem?_set_ne (fun e => h2 e.symm)]
def HeapL (xs : List Int) : Prop := ∀ i, 0 < i → i < xs.length → gx xs ((i - 1) / 2) ≤ gx xs i
/-- All but one stand right. -/
def UpL (xs : List Int) (j : Nat) : Prop := (∀ i, 0 < i → i < xs.length → i ≠ j → gx xs ((i - 1) / 2) ≤ gx xs i) ∧ ∀ i, 0 < j → 0 < i → i < xs.length → (i - 1) / 2 = j → gx xs ((j - 1) / 2) ≤ gx xs i
def MinL (xs : List Int) (m : Int) : Prop := (∃ i, i < xs.length ∧ gx xs i = m) ∧ ∀ i, i < xs.length → m ≤ gx xs i
theorem UpL.zero {xs : List Int} (h : UpL xs 0) : HeapL xs := fun i h0 hi => h.1 i h0 hi (by omega)
theorem UpL.stop {xs : List Int} {j : Nat} (h : UpL xs j) (hs : gx xs ((j - 1) / 2) ≤ gx xs j) : HeapL xs := fun i h0 hi => by
  by_cases e : i = j
  · subst e; exact hs
  · exact h.1 i h0 hi e
theorem UpL.step {xs : List Int} {j : Nat} (h : UpL xs j) (hj : j < xs.length) (h0 : 0 < j) (hs : gx xs j < gx xs ((j - 1) / 2)) : UpL (swL xs ((j - 1) / 2) j) ((j - 1) / 2) := by
  obtain ⟨p, hp⟩ : ∃ p, p = (j - 1) / 2 := ⟨_, rfl⟩
  rw [← hp] at hs ⊢
  have hpj : p < j := by omega
  have at' : ∀ k, gx (swL xs p j) k = if k = j then gx xs p else if k = p then gx xs j else gx xs k := fun k => swL_at (by omega) hj
  refine ⟨fun i hi hil hne => ?_, fun i h1 hi hil hip => ?_⟩
  · rw [swL_len] at hil
    rw [at', at']
    by_cases e1 : i = j
    · subst e1
      rw [← hp, if_neg (by omega), if_pos rfl, if_pos rfl]
      omega
    · rw [if_neg e1, if_neg hne]
      have ha := h.1 i hi hil e1
      by_cases e2 : (i - 1) / 2 = j
      · rw [if_pos e2]
        have hb := h.2 i h0 hi hil e2
        rw [← hp] at hb
        exact hb
      · rw [if_neg e2]
        by_cases e3 : (i - 1) / 2 = p
        · rw [if_pos e3]
          rw [e3] at ha
          omega
        · rw [if_neg e3]
          exact ha
  · rw [swL_len] at hil
    rw [at', at', if_neg (by omega), if_neg (by omega)]
    have ha := h.1 p h1 (by omega) (by omega)
    by_cases e1 : i = j
    · rw [if_pos e1]; exact ha
    · rw [if_neg e1, if_neg (by omega)]
      have hb := h.1 i hi hil e1
      rw [hip] at hb
      omega
theorem HeapL.least {xs : List Int} (h : HeapL xs) : ∀ i, i < xs.length → gx xs 0 ≤ gx xs i := by
  intro i
  induction i using Nat.strongRecOn with
  | _ i ih =>
    intro hi
    by_cases h0 : i = 0
    · subst h0; exact Int.le_refl _
    · have h1 := ih ((i - 1) / 2) (by omega) (by omega)
      have h2 := h i (by omega) hi
      omega
theorem HeapL.root {xs : List Int} {m : Int} (h : HeapL xs) (hm : MinL xs m) : gx xs 0 = m := by
  obtain ⟨⟨i, hi, e⟩, h2⟩ := hm
  have h1 := h.least i hi
  have h3 := h2 0 (by omega)
  omega
theorem MinL.sw {xs : List Int} {m : Int} (h : MinL xs m) {i j : Nat} (hi : i < xs.length) (hj : j < xs.length) : MinL (swL xs i j) m := by
  obtain ⟨⟨k, hk, e⟩, h2⟩ := h
  constructor
  · by_cases e1 : k = i
    · subst e1
      exact ⟨j, by rw [swL_len]; exact hj, by rw [swL_at hi hj, if_pos rfl]; exact e⟩
    · by_cases e2 : k = j
      · subst e2
        refine ⟨i, by rw [swL_len]; exact hi, ?_⟩
        rw [swL_at hi hj, if_neg (fun x => e1 x.symm), if_pos rfl]
        exact e
      · exact ⟨k, by rw [swL_len]; exact hk, by rw [swL_at hi hj, if_neg e2, if_neg e1]; exact e⟩
  · intro q hq
    rw [swL_len] at hq
    rw [swL_at hi hj]
    split
    · exact h2 i hi
    · split
      · exact h2 j hj
      · exact h2 q hq
theorem gx_app {xs : List Int} {x : Int} {i : Nat} : gx (xs ++ [x]) i = if i < xs.length then gx xs i else if i = xs.length then x else 0 := by
  unfold gx
  simp only [List.getD]
  by_cases h : i < xs.length
  · rw [if_pos h, List.getElem?_append_left h]
  · rw [if_neg h, List.getElem?_append_right (by omega)]
    by_cases e : i = xs.length
    · rw [if_pos e, e, Nat.sub_self]; rfl
    · rw [if_neg e, List.getElem?_eq_none (by rw [List.length_singleton]; omega)]; rfl
theorem HeapL.app {xs : List Int} (h : HeapL xs) (x : Int) : UpL (xs ++ [x]) xs.length := by
  refine ⟨fun i h0 hi hne => ?_, fun i _ h0 hi hip => ?_⟩
  · rw [List.length_append, List.length_singleton] at hi
    rw [gx_app, gx_app, if_pos (by omega), if_pos (by omega)]
    exact h i h0 (by omega)
  · rw [List.length_append, List.length_singleton] at hi
    omega
theorem MinL.app {xs : List Int} {m : Int} (h : MinL xs m) (x : Int) : MinL (xs ++ [x]) (min m x) := by
  obtain ⟨⟨k, hk, e⟩, h2⟩ := h
  constructor
  · by_cases hx : m ≤ x
    · exact ⟨k, by rw [List.length_append]; omega, by rw [gx_app, if_pos hk]; omega⟩
    · exact ⟨xs.length, by simp, by rw [gx_app, if_neg (by omega), if_pos rfl]; omega⟩
  · intro i hi
    rw [List.length_append, List.length_singleton] at hi
    rw [gx_app]
    by_cases hl : i < xs.length
    · rw [if_pos hl]; have := h2 i hl; omega
    · rw [if_neg hl, if_pos (by omega)]; omega
theorem heap_one (x : Int) : HeapL [x] ∧ MinL [x] x := ⟨fun i h0 hi => by simp at hi; omega, ⟨0, by simp, rfl⟩, fun i hi => by
  obtain rfl : i = 0 := by simpa using hi
  exact Int.le_refl _⟩
end Go.Proofs.YtfajenejngddeaaGreat

namespace Go.Proofs.YtfajenejngddeaaGreat
open Go.RowKit

theorem insV_cons (e : VerD) (r : List VerD) (x : VerD) : insV (e :: r) x = if ltV e x = true then e :: insV r x else if sameV e x = true then x :: r else x :: e :: r := by
  by_cases h : ltV e x = true
  · rw [if_pos h]
    have hp : posV (e :: r) x = posV r x + 1 := by rw [posV, if_pos h]
    have hh : hitV (e :: r) x = hitV r x := by unfold hitV; rw [hp]; rfl
    unfold insV
    rw [hh, hp, List.take_succ_cons, List.cons_append, show posV r x + 1 + (if hitV r x = true then 1 else 0) = (posV r x + (if hitV r x = true then 1 else 0)) + 1 by omega, List.drop_succ_cons]
  · rw [if_neg h]
    have hp : posV (e :: r) x = 0 := by rw [posV, if_neg h]
    have hh : hitV (e :: r) x = sameV e x := by unfold hitV; rw [hp]; rfl
    unfold insV
    rw [hh, hp]
    by_cases hs : sameV e x = true
    · rw [if_pos hs, if_pos hs]; rfl
    · rw [if_neg hs, if_neg hs]; rfl
theorem insV_mem (x y : VerD) : ∀ ds : List VerD, y ∈ insV ds x → y = x ∨ y ∈ ds
  | [], h => by simp [insV, posV, hitV] at h; exact .inl h
  | e :: r, h => by
    rw [insV_cons] at h
    split at h
    · rcases List.mem_cons.1 h with rfl | h
      · exact .inr (List.mem_cons_self ..)
      · rcases insV_mem x y r h with h | h
        · exact .inl h
        · exact .inr (List.mem_cons_of_mem _ h)
    · split at h
      · rcases List.mem_cons.1 h with rfl | h
        · exact .inl rfl
        · exact .inr (List.mem_cons_of_mem _ h)
      · rcases List.mem_cons.1 h with rfl | h
        · exact .inl rfl
        · exact .inr h
theorem ltV_tot {a b : VerD} (h : ltV a b = false) (hs : sameV a b = false) : ltV b a = true := by
  unfold ltV sameV at *
  cases hb : ltK b.k a.k
  · cases ha : ltK a.k b.k
    · have hk := ltK_eq ha hb
      rw [ha, hk] at h
      rw [hk] at hs ⊢
      simp at h hs ⊢
      omega
    · rw [ha] at h; simp at h
  · simp
theorem ltV_same {a b c : VerD} (hs : sameV a b = true) (h : ltV a c = true) : ltV b c = true := by
  unfold sameV at hs
  unfold ltV at *
  simp only [Bool.and_eq_true, decide_eq_true_eq] at hs
  rw [← hs.1, ← hs.2]
  exact h
theorem insV_pair (x : VerD) : ∀ ds : List VerD, (ds.Pairwise fun a b => ltV a b = true) → (insV ds x).Pairwise fun a b => ltV a b = true
  | [], _ => by simp [insV, posV, hitV]
  | e :: r, h => by
    obtain ⟨h1, h2⟩ := List.pairwise_cons.1 h
    rw [insV_cons]
    split
    · rename_i hl
      refine List.pairwise_cons.2 ⟨fun y hy => ?_, insV_pair x r h2⟩
      rcases insV_mem x y r hy with rfl | hy
      · exact hl
      · exact h1 y hy
    · rename_i hl
      split
      · rename_i hs
        exact List.pairwise_cons.2 ⟨fun y hy => ltV_same hs (h1 y hy), h2⟩
      · rename_i hs
        have hx : ltV x e = true := ltV_tot (by simpa using hl) (by simpa using hs)
        refine List.pairwise_cons.2 ⟨fun y hy => ?_, h⟩
        rcases List.mem_cons.1 hy with rfl | hy
        · exact hx
        · exact ltV_trans hx (h1 y hy)
theorem okVs_iff (ds : List VerD) : okVs ds = true ↔ (∀ d ∈ ds, verK d = true) ∧ ds.Pairwise (fun a b => ltV a b = true) := by
  refine ⟨fun h => ⟨fun d hd => ?_, okVs_pair h⟩, fun h => okVs_true fun i hi => ?_⟩
  · obtain ⟨i, hi, rfl⟩ := List.getElem_of_mem hd
    exact okVs_ver h hi
  · cases i with
    | zero => rw [okAtV_zero hi]; exact h.1 _ (List.getElem_mem hi)
    | succ i =>
      rw [okAtV_succ hi, h.1 _ (List.getElem_mem hi), List.pairwise_iff_getElem.1 h.2 i (i + 1) (by omega) hi (by omega)]
      rfl
theorem okVs_ins {ds : List VerD} {x : VerD} (h : okVs ds = true) (hx : verK x = true) : okVs (insV ds x) = true := by
  rw [okVs_iff] at h ⊢
  refine ⟨fun d hd => ?_, insV_pair x ds h.2⟩
  rcases insV_mem x d ds hd with rfl | hd
  · exact hx
  · exact h.1 d hd
theorem okVs_fold : ∀ (ws : List VerD) (ds : List VerD), okVs ds = true → (∀ x ∈ ws, verK x = true) → okVs (ws.foldl insV ds) = true
  | [], _, h, _ => h
  | x :: r, ds, h, hw => okVs_fold r (insV ds x) (okVs_ins h (hw x (List.mem_cons_self ..))) (fun y hy => hw y (List.mem_cons_of_mem _ hy))
theorem fold_mem (y : VerD) : ∀ (ws : List VerD) (ds : List VerD), y ∈ ws.foldl insV ds → y ∈ ws ∨ y ∈ ds
  | [], _, h => .inr h
  | x :: r, ds, h => by
    rcases fold_mem y r (insV ds x) h with h | h
    · exact .inl (List.mem_cons_of_mem _ h)
    · rcases insV_mem x y ds h with rfl | h
      · exact .inl (List.mem_cons_self ..)
      · exact .inr h
theorem fold_len : ∀ (ws : List VerD) (ds : List VerD), (ws.foldl insV ds).length ≤ ds.length + ws.length
  | [], _ => by simp
  | x :: r, ds => by
    rw [List.foldl_cons]
    have := fold_len r (insV ds x)
    have := insV_len ds x
    simp only [List.length_cons]
    omega
theorem sum_set {α : Type} (f : α → Nat) : ∀ (l : List α) (i : Nat) (x : α) (h : i < l.length), ((l.set i x).map f).sum + f l[i] = (l.map f).sum + f x
  | [], i, x, h => by simp at h
  | y :: r, 0, x, _ => by simp; omega
  | y :: r, i + 1, x, h => by
    have := sum_set f r i x (by simpa using h)
    simp only [List.set_cons_succ, List.map_cons, List.sum_cons, List.getElem_cons_succ]
    omega
/-- Versions behind so many acts. -/
structure RunV (d : VsD) (k : Nat) : Prop where
  nx : 1 ≤ d.next ∧ d.next ≤ 1000
  ses : d.ses.length = 4
  ok : okVs d.list = true
  late : ∀ x ∈ d.list, x.t < d.next
  fk : ∀ f ∈ d.fen, fenK d.next f = true
  sk : ∀ s ∈ d.ses, sesK d.next s = true
  cnt : d.list.length + (d.ses.map (·.ws.length)).sum ≤ k
  fen : d.fen.length ≤ k
theorem sesK_ws {n : Int} {s : SesD} (h : sesK n s = true) : s.ws.length ≤ 8 := by
  unfold sesK wrV at h
  split at h
  · simp at h; omega
  · simp at h; rw [h.2]; simp
theorem sesK_open {n : Int} {s : SesD} (h : sesK n s = true) (ho : s.o = true) : 1 ≤ s.t ∧ s.t < n ∧ wrV s.ws s.t = true := by
  unfold sesK at h
  rw [if_pos ho] at h
  simp only [Bool.and_eq_true, decide_eq_true_eq] at h
  exact ⟨h.1, h.2.1, h.2.2⟩
theorem sesK_up {n m : Int} {s : SesD} (h : sesK n s = true) (hm : n ≤ m) : sesK m s = true := by
  unfold sesK at *
  split
  · rename_i ho
    rw [if_pos ho] at h
    simp only [Bool.and_eq_true, decide_eq_true_eq] at h ⊢
    exact ⟨h.1, by omega, h.2.2⟩
  · rename_i ho
    rw [if_neg ho] at h
    exact h
theorem fenK_up {n m : Int} {f : FenD} (h : fenK n f = true) (hm : n ≤ m) : fenK m f = true := by
  unfold fenK at *
  simp only [Bool.and_eq_true, decide_eq_true_eq] at h ⊢
  exact ⟨h.1, h.2.1, h.2.2.1, by omega⟩
theorem clS_ok (n : Int) : sesK n clS = true := rfl
theorem RunV.more {d : VsD} {k m : Nat} (h : RunV d k) (hm : k ≤ m) : RunV d m := ⟨h.nx, h.ses, h.ok, h.late, h.fk, h.sk, by have := h.cnt; omega, by have := h.fen; omega⟩
/-- A session is closed. -/
theorem RunV.close {d : VsD} {k : Nat} (h : RunV d k) {i : Nat} (hi : i < 4) : RunV ⟨d.next, d.list, d.fen, d.ses.set i clS⟩ k := by
  have hil : i < d.ses.length := by rw [h.ses]; exact hi
  refine ⟨h.nx, by simp [h.ses], h.ok, h.late, h.fk, fun s hs => ?_, ?_, h.fen⟩
  · rcases List.mem_or_eq_of_mem_set hs with hs | rfl
    · exact h.sk s hs
    · exact clS_ok _
  · have h1 := sum_set (fun s : SesD => s.ws.length) d.ses i clS hil
    have h2 := h.cnt
    simp only [clS, List.length_nil] at h1 ⊢
    omega
theorem RunV.fence {d : VsD} {k : Nat} (h : RunV d k) {f : FenD} (hf : fenK d.next f = true) {r : RepD} : RunV (fenV d f r).1 (k + 1) := by
  unfold fenV
  split
  · exact h.more (Nat.le_succ _)
  · refine ⟨h.nx, h.ses, h.ok, h.late, fun x hx => ?_, h.sk, by have := h.cnt; simp only at this ⊢; omega, by have := h.fen; simp only [List.length_append, List.length_singleton]; omega⟩
    rcases List.mem_append.1 hx with hx | hx
    · exact h.fk x hx
    · rw [List.mem_singleton.1 hx]; exact hf
theorem nulK_size (k : ByteArray) : (nulK k).size = k.size + 1 := by
  unfold nulK
  rw [ByteArray.size_append]
  rfl
theorem RunV.step {d : VsD} {k : Nat} (h : RunV d k) (a : TxD) : RunV (stepV d a).1 (k + 1) := by
  unfold stepV
  split
  · exact h.more (Nat.le_succ _)
  rename_i hk
  split
  · exact h.more (Nat.le_succ _)
  rename_i hs
  have hi : a.ses.toNat < 4 := by omega
  generalize a.ses.toNat = i at *
  have hil : i < d.ses.length := by rw [h.ses]; exact hi
  have hg : d.ses.getD i clS = d.ses[i] := by rw [List.getD_eq_getElem?_getD, List.getElem?_eq_getElem hil]; rfl
  rw [hg]
  have hsk := h.sk d.ses[i] (List.getElem_mem hil)
  have hnx := h.nx
  unfold sesV
  split
  · split
    · exact h.more (Nat.le_succ _)
    split
    · exact h.more (Nat.le_succ _)
    rename_i hn
    refine ⟨by simp only; omega, by simp [h.ses], h.ok, fun x hx => by have := h.late x hx; simp only; omega, fun f hf => fenK_up (h.fk f hf) (by simp only; omega), fun s hs => ?_, ?_, by have := h.fen; simp only; omega⟩
    · rcases List.mem_or_eq_of_mem_set hs with hs | rfl
      · exact sesK_up (h.sk s hs) (by simp only; omega)
      · unfold sesK
        rw [if_pos rfl]
        simp only [Bool.and_eq_true, decide_eq_true_eq]
        exact ⟨hnx.1, by omega, rfl⟩
    · have h1 := sum_set (fun s : SesD => s.ws.length) d.ses i ⟨true, d.next, []⟩ hil
      have h2 := h.cnt
      simp only [List.length_nil] at h1 ⊢
      omega
  split
  · exact h.more (Nat.le_succ _)
  rename_i ho
  have ho : d.ses[i].o = true := by simpa using ho
  obtain ⟨ht1, ht2, hw⟩ := sesK_open hsk ho
  split
  · exact h.more (Nat.le_succ _)
  rename_i hf
  have hf : fitA a = true := by simpa using hf
  generalize hd : d.ses[i] = s at *
  unfold inV
  split
  · rename_i h2
    refine h.fence ?_
    unfold fitA at hf
    rw [if_pos (.inl h2)] at hf
    simp only [Bool.and_eq_true] at hf
    have hk1 := of_decide_eq_true hf.1
    unfold fenK
    simp only [Bool.and_eq_true, decide_eq_true_eq]
    rw [nulK_size]
    exact ⟨by omega, by omega, ht1, ht2⟩
  split
  · rename_i h2 h3
    refine h.fence ?_
    unfold fitA at hf
    rw [if_neg (by omega), if_pos h3] at hf
    simp only [Bool.and_eq_true, decide_eq_true_eq] at hf
    unfold fenK
    simp only [Bool.and_eq_true, decide_eq_true_eq]
    exact ⟨by omega, by omega, ht1, ht2⟩
  have hwp := hw
  unfold wrV at hwp
  simp only [Bool.and_eq_true, decide_eq_true_eq] at hwp
  split
  · rename_i h45
    split
    · exact h.more (Nat.le_succ _)
    rename_i h8
    have hv : verK (wrA a s.t) = true ∧ (wrA a s.t).t = s.t := by
      unfold fitA at hf
      rw [if_pos (.inr h45)] at hf
      simp only [Bool.and_eq_true] at hf
      unfold wrA
      split
      · refine ⟨?_, rfl⟩
        unfold verK idK
        rw [hf.1]
        simp only [Bool.true_and]
        rw [decide_eq_true (show 0 ≤ s.t ∧ s.t ≤ 1000 by omega), ByteArray.toList_eq]
        rfl
      · refine ⟨?_, rfl⟩
        unfold verK idK
        rw [hf.1, hf.2]
        simp only [Bool.true_and]
        rw [decide_eq_true (show 0 ≤ s.t ∧ s.t ≤ 1000 by omega)]
        rfl
    refine ⟨hnx, by simp [h.ses], h.ok, h.late, h.fk, fun q hq => ?_, ?_, by have := h.fen; simp only; omega⟩
    · rcases List.mem_or_eq_of_mem_set hq with hq | rfl
      · exact h.sk q hq
      · unfold sesK
        rw [if_pos ho]
        simp only [Bool.and_eq_true, decide_eq_true_eq]
        refine ⟨ht1, ht2, ?_⟩
        unfold wrV
        simp only [Bool.and_eq_true, decide_eq_true_eq]
        refine ⟨by omega, okVs_ins hwp.2.1 hv.1, List.all_eq_true.2 fun x hx => decide_eq_true ?_⟩
        rcases insV_mem _ x _ hx with rfl | hx
        · exact hv.2
        · exact of_decide_eq_true (List.all_eq_true.1 hwp.2.2 x hx)
    · have h1 := sum_set (fun s : SesD => s.ws.length) d.ses i ⟨s.o, s.t, insV s.ws (wrA a s.t)⟩ hil
      have h2 := h.cnt
      have h3 := insV_len s.ws (wrA a s.t)
      rw [hd] at h1
      simp only at h1 ⊢
      omega
  split
  · split
    · exact (h.close hi).more (Nat.le_succ _)
    · refine ⟨hnx, by simp [h.ses], okVs_fold _ _ h.ok (fun x hx => ((okVs_iff _).1 hwp.2.1).1 x hx), fun x hx => ?_, h.fk, fun q hq => ?_, ?_, by have := h.fen; simp only; omega⟩
      · rcases fold_mem x s.ws d.list hx with hx | hx
        · have := of_decide_eq_true (List.all_eq_true.1 hwp.2.2 x hx)
          simp only
          omega
        · exact h.late x hx
      · rcases List.mem_or_eq_of_mem_set hq with hq | rfl
        · exact h.sk q hq
        · exact clS_ok _
      · have h1 := sum_set (fun s : SesD => s.ws.length) d.ses i clS hil
        have h2 := h.cnt
        have h3 := fold_len s.ws d.list
        rw [hd] at h1
        simp only [clS, List.length_nil] at h1 ⊢
        omega
  · exact (h.close hi).more (Nat.le_succ _)
theorem RunV.new : RunV newV 0 := ⟨by simp [newV], rfl, rfl, fun x hx => by simp [newV] at hx, fun x hx => by simp [newV] at hx, fun s hs => by rw [List.eq_of_mem_replicate hs]; rfl, by simp [newV, clS], by simp [newV]⟩
end Go.Proofs.YtfajenejngddeaaGreat

namespace Go.Proofs.YtfajenejngddeaaGreat
open Go.RowKit

theorem ltV_irr (a : VerD) : ltV a a = false := by unfold ltV; rw [ltK_irr]; simp
/-- Two lists that rise and have the same versions are one. -/
theorem rise_one : ∀ (l m : List VerD), (l.Pairwise fun a b => ltV a b = true) → (m.Pairwise fun a b => ltV a b = true) → (∀ x, x ∈ l ↔ x ∈ m) → l = m
  | [], m, _, _, h => by
    cases m with
    | nil => rfl
    | cons y s => exact absurd ((h y).2 (List.mem_cons_self ..)) List.not_mem_nil
  | x :: r, [], _, _, h => absurd ((h x).1 (List.mem_cons_self ..)) List.not_mem_nil
  | x :: r, y :: s, hl, hm, h => by
    obtain ⟨hx, hr⟩ := List.pairwise_cons.1 hl
    obtain ⟨hy, hs⟩ := List.pairwise_cons.1 hm
    have e : x = y := by
      rcases List.mem_cons.1 ((h x).1 (List.mem_cons_self ..)) with e | e
      · exact e
      · rcases List.mem_cons.1 ((h y).2 (List.mem_cons_self ..)) with e2 | e2
        · exact e2.symm
        · have := ltV_trans (hx y e2) (hy x e)
          rw [ltV_irr] at this
          exact absurd this (by decide)
    subst e
    have hrs := rise_one r s hr hs fun z => by
      constructor
      · intro hz
        rcases List.mem_cons.1 ((h z).1 (List.mem_cons_of_mem _ hz)) with e | e
        · subst e
          have := hx z hz
          rw [ltV_irr] at this
          exact absurd this (by decide)
        · exact e
      · intro hz
        rcases List.mem_cons.1 ((h z).2 (List.mem_cons_of_mem _ hz)) with e | e
        · subst e
          have := hy z hz
          rw [ltV_irr] at this
          exact absurd this (by decide)
        · exact e
    rw [hrs]
theorem grp_mem {ds : List VerD} {k : ByteArray} {x : VerD} : x ∈ grp ds k ↔ x ∈ ds ∧ x.k = k := by
  unfold grp
  rw [List.mem_filter, decide_eq_true_eq]
theorem grp_sub (ds : List VerD) (k : ByteArray) : (grp ds k).Sublist ds := List.filter_sublist
theorem dkeys_mem {ds : List VerD} {k : ByteArray} : k ∈ dkeys ds ↔ ∃ x ∈ ds, x.k = k := by
  unfold dkeys
  rw [dk_mem ds k _ (Nat.le_refl _)]
  constructor
  · rintro ⟨i, hi, _, e⟩
    exact ⟨_, List.getElem_mem hi, e⟩
  · rintro ⟨x, hx, e⟩
    obtain ⟨i, hi, rfl⟩ := List.getElem_of_mem hx
    exact ⟨i, hi, hi, e⟩
/-- A right list is what its keys have, one behind the other. -/
theorem list_flat {ds : List VerD} (ok : okVs ds = true) : (dkeys ds).flatMap (grp ds) = ds := by
  refine rise_one _ _ (List.pairwise_flatMap.2 ⟨fun k _ => (okVs_pair ok).sublist (grp_sub ds k), ?_⟩) (okVs_pair ok) fun x => ?_
  · refine (dk_rise ok _ (Nat.le_refl _)).imp fun {a b} h x hx y hy => ?_
    unfold ltV
    rw [(grp_mem.1 hx).2, (grp_mem.1 hy).2, h]
    rfl
  · rw [List.mem_flatMap]
    constructor
    · rintro ⟨k, _, hx⟩
      exact (grp_mem.1 hx).1
    · intro hx
      exact ⟨x.k, dkeys_mem.2 ⟨x, hx, rfl⟩, grp_mem.2 ⟨hx, rfl⟩⟩
theorem prTo_sub (ds : List VerD) (t : Int) : ∀ j, j ≤ ds.length → (prTo ds t j).Sublist (ds.take j)
  | 0, _ => by simp [prTo]
  | j + 1, hj => by
    have hj2 : j < ds.length := hj
    have ih := prTo_sub ds t j (by omega)
    rw [prTo_step hj2, takeG_snoc ds j hj2]
    split
    · exact ih.append (List.Sublist.refl _)
    · exact ih.trans (List.sublist_append_left _ _)
theorem prL_sub (ds : List VerD) (t : Int) : (prL ds t).Sublist ds := by
  have := prTo_sub ds t ds.length (Nat.le_refl _)
  rwa [List.take_length] at this
theorem prL_ok {ds : List VerD} (ok : okVs ds = true) (t : Int) : okVs (prL ds t) = true := by
  obtain ⟨h1, h2⟩ := (okVs_iff ds).1 ok
  exact (okVs_iff _).2 ⟨fun d hd => h1 d ((prL_sub ds t).subset hd), h2.sublist (prL_sub ds t)⟩
theorem prTo_mem (ds : List VerD) (t : Int) (x : VerD) : ∀ j, j ≤ ds.length → (x ∈ prTo ds t j ↔ ∃ i, ∃ h : i < ds.length, i < j ∧ ds[i] = x ∧ keepP ds t i x = true)
  | 0, _ => by simp [prTo]
  | j + 1, hj => by
    have hj2 : j < ds.length := hj
    have ih := prTo_mem ds t x j (by omega)
    rw [prTo_step hj2]
    by_cases hk : keepP ds t j ds[j] = true
    · rw [if_pos hk, List.mem_append, ih, List.mem_singleton]
      constructor
      · rintro (⟨i, h, h1, h2⟩ | rfl)
        · exact ⟨i, h, by omega, h2⟩
        · exact ⟨j, hj2, by omega, rfl, hk⟩
      · rintro ⟨i, h, h1, h2, h3⟩
        by_cases e : i < j
        · exact .inl ⟨i, h, e, h2, h3⟩
        · obtain rfl : i = j := by omega
          exact .inr h2.symm
    · rw [if_neg hk, ih]
      constructor
      · rintro ⟨i, h, h1, h2⟩
        exact ⟨i, h, by omega, h2⟩
      · rintro ⟨i, h, h1, h2, h3⟩
        by_cases e : i < j
        · exact ⟨i, h, e, h2, h3⟩
        · obtain rfl : i = j := by omega
          subst h2
          exact absurd h3 hk
theorem ltV_key {a b : VerD} (h : ltV a b = true) (hk : a.k = b.k) : a.t < b.t := by
  unfold ltV at h
  rw [hk, ltK_irr] at h
  simpa using h
/-- A version that stands behind another of its key comes behind the next one, too, which is of its key. -/
theorem lastP_iff {ds : List VerD} (ok : okVs ds = true) (t : Int) {i : Nat} (hi : i < ds.length) : lastP ds t i ds[i] = true ↔ ∀ y ∈ ds, y.k = ds[i].k → ds[i].t < y.t → t < y.t := by
  unfold lastP
  by_cases h1 : i + 1 < ds.length
  · rw [List.getElem?_eq_getElem h1]
    have hn := okVs_lt2 ok h1 (Nat.lt_succ_self i)
    simp only [Bool.or_eq_true, Bool.not_eq_true', decide_eq_false_iff_not, decide_eq_true_eq]
    constructor
    · intro h y hy hk hlt
      obtain ⟨j, hj, rfl⟩ := List.getElem_of_mem hy
      have hij : i < j := by
        rcases Nat.lt_trichotomy i j with e | e | e
        · exact e
        · subst e; omega
        · have := ltV_key (okVs_lt2 ok hi e) hk
          omega
      by_cases hj1 : j = i + 1
      · subst hj1
        rcases h with h | h
        · exact absurd hk h
        · exact h
      · have h2 := okVs_lt2 ok hj (show i + 1 < j by omega)
        rcases h with h | h
        · exfalso
          rcases ltV_or hn with e | e
          · rcases ltV_or h2 with e2 | e2
            · have := ltK_trans e e2
              rw [hk, ltK_irr] at this
              exact absurd this (by decide)
            · rw [e2, hk, ltK_irr] at e
              exact absurd e (by decide)
          · exact h e.symm
        · have hk2 : ds[i + 1].k = ds[j].k := by
            rcases ltV_or h2 with e2 | e2
            · rcases ltV_or hn with e | e
              · have := ltK_trans e e2
                rw [hk, ltK_irr] at this
                exact absurd this (by decide)
              · rw [← e, hk, ltK_irr] at e2
                exact absurd e2 (by decide)
            · exact e2
          have := ltV_key h2 hk2
          omega
    · intro h
      by_cases hk : ds[i + 1].k = ds[i].k
      · exact .inr (h _ (List.getElem_mem h1) hk (ltV_key hn hk.symm))
      · exact .inl hk
  · rw [List.getElem?_eq_none (by omega)]
    refine ⟨fun _ y hy hk hlt => ?_, fun _ => rfl⟩
    obtain ⟨j, hj, rfl⟩ := List.getElem_of_mem hy
    by_cases e : j = i
    · subst e; omega
    · have := ltV_key (okVs_lt2 ok hi (show j < i by omega)) hk
      omega
theorem prL_mem {ds : List VerD} (ok : okVs ds = true) (t : Int) (x : VerD) : x ∈ prL ds t ↔ x ∈ ds ∧ (t < x.t ∨ (x.g = false ∧ ∀ y ∈ ds, y.k = x.k → x.t < y.t → t < y.t)) := by
  unfold prL
  rw [prTo_mem ds t x _ (Nat.le_refl _)]
  constructor
  · rintro ⟨i, hi, _, rfl, hk⟩
    refine ⟨List.getElem_mem hi, ?_⟩
    unfold keepP at hk
    simp only [Bool.or_eq_true, Bool.and_eq_true, decide_eq_true_eq, Bool.not_eq_true'] at hk
    rcases hk with hk | ⟨h1, h2⟩
    · exact .inl hk
    · exact .inr ⟨h2, (lastP_iff ok t hi).1 h1⟩
  · rintro ⟨hx, h⟩
    obtain ⟨i, hi, rfl⟩ := List.getElem_of_mem hx
    refine ⟨i, hi, hi, rfl, ?_⟩
    unfold keepP
    simp only [Bool.or_eq_true, Bool.and_eq_true, decide_eq_true_eq, Bool.not_eq_true']
    rcases h with h | ⟨h1, h2⟩
    · exact .inl h
    · exact .inr ⟨(lastP_iff ok t hi).2 h2, h1⟩
theorem cnt_at {L : List VerD} (h : L.Pairwise fun a b => a.t < b.t) (t : Int) {p : Nat} (hp : p < L.length) : L[p].t ≤ t ↔ p < cnt L t := by
  have hw := while_filter h t
  rw [take_cnt] at hw
  constructor
  · intro h1
    have hm : L[p] ∈ L.take (cnt L t) := by
      rw [hw, List.mem_filter]
      exact ⟨List.getElem_mem hp, decide_eq_true h1⟩
    obtain ⟨q, hq, e⟩ := List.getElem_of_mem hm
    rw [List.length_take] at hq
    rw [List.getElem_take] at e
    rcases Nat.lt_trichotomy p q with h2 | h2 | h2
    · omega
    · omega
    · have := List.pairwise_iff_getElem.1 h q p (by omega) hp h2
      rw [e] at this
      omega
  · intro h1
    have hm : L[p] ∈ L.take (cnt L t) := List.mem_take_iff_getElem.2 ⟨p, by omega, rfl⟩
    rw [hw, List.mem_filter, decide_eq_true_eq] at hm
    exact hm.2
/-- From where on the versions of a key are kept. -/
def frP (L : List VerD) (t : Int) : Nat := if 0 < cnt L t ∧ (L.getD (cnt L t - 1) noV).g = false then cnt L t - 1 else cnt L t
theorem frP_le (L : List VerD) (t : Int) : frP L t ≤ L.length := by
  have := cnt_le L t
  unfold frP
  split <;> omega
theorem grp_pr {ds : List VerD} (ok : okVs ds = true) (t : Int) (k : ByteArray) : grp (prL ds t) k = (grp ds k).drop (frP (grp ds k) t) := by
  have hr := grp_rise ok k
  have hL : ∀ x, x ∈ grp ds k ↔ x ∈ ds ∧ x.k = k := fun x => grp_mem
  refine rise_one _ _ ((okVs_pair (prL_ok ok t)).sublist (grp_sub _ _)) (((okVs_pair ok).sublist (grp_sub ds k)).sublist (List.drop_sublist _ _)) fun x => ?_
  rw [grp_mem, prL_mem ok, List.mem_drop_iff_getElem]
  generalize grp ds k = L at *
  have hc := cnt_le L t
  constructor
  · rintro ⟨⟨hx, h⟩, hk⟩
    obtain ⟨p, hp, rfl⟩ := List.getElem_of_mem ((hL x).2 ⟨hx, hk⟩)
    have hfp : frP L t ≤ p := by
      rcases h with h | ⟨hg, h⟩
      · have h1 : ¬ p < cnt L t := fun e => by have := (cnt_at hr t hp).2 e; omega
        unfold frP
        split <;> omega
      · by_cases h1 : p < cnt L t
        · have h2 : p = cnt L t - 1 := by
            by_cases e : p + 1 < cnt L t
            · exfalso
              have h3 := (hL _).1 (List.getElem_mem (show p + 1 < L.length by omega))
              have h4 := h _ h3.1 (h3.2.trans hk.symm) (List.pairwise_iff_getElem.1 hr p (p + 1) hp (by omega) (by omega))
              have h5 := (cnt_at hr t (show p + 1 < L.length by omega)).2 e
              omega
            · omega
          have h6 : (L.getD (cnt L t - 1) noV).g = false := by
            rw [← h2, getD_is hp]
            exact hg
          unfold frP
          rw [if_pos ⟨by omega, h6⟩]
          omega
        · unfold frP
          split <;> omega
    exact ⟨p - frP L t, by omega, by congr 1; omega⟩
  · rintro ⟨q, hq, rfl⟩
    have hp : frP L t + q < L.length := by omega
    obtain ⟨hx, hk⟩ := (hL _).1 (List.getElem_mem hp)
    refine ⟨⟨hx, ?_⟩, hk⟩
    by_cases h1 : frP L t + q < cnt L t
    · have hf : 0 < cnt L t ∧ (L.getD (cnt L t - 1) noV).g = false := by
        by_cases e : 0 < cnt L t ∧ (L.getD (cnt L t - 1) noV).g = false
        · exact e
        · unfold frP at h1
          rw [if_neg e] at h1
          omega
      have e2 : frP L t = cnt L t - 1 := by unfold frP; rw [if_pos hf]
      have hq0 : q = 0 := by omega
      subst hq0
      have e3 : frP L t + 0 = cnt L t - 1 := by omega
      refine .inr ⟨?_, fun y hy hyk hlt => ?_⟩
      · have h2 := hf.2
        rw [getD_is (show cnt L t - 1 < L.length by omega)] at h2
        simp only [e3]
        exact h2
      · obtain ⟨j, hj, rfl⟩ := List.getElem_of_mem ((hL y).2 ⟨hy, hyk.trans hk⟩)
        have h3 : cnt L t - 1 < j := by
          rcases Nat.lt_trichotomy (cnt L t - 1) j with e | e | e
          · exact e
          · exfalso
            simp only [e3, e] at hlt
            omega
          · have h4 := List.pairwise_iff_getElem.1 hr j (frP L t + 0) hj hp (by omega)
            omega
        have h5 : ¬ L[j].t ≤ t := fun e => by have := (cnt_at hr t hj).1 e; omega
        omega
    · have h5 : ¬ L[frP L t + q].t ≤ t := fun e => h1 ((cnt_at hr t hp).1 e)
      exact .inl (by omega)
end Go.Proofs.YtfajenejngddeaaGreat

namespace Go.Proofs.YtfajenejngddeaaGreat
open Go.RowKit Go.Maps

set_option maxRecDepth 100000 in
set_option maxHeartbeats 1000000 in
theorem countUpTo_any (a : Option Addr) (n c : Nat) (L : List VerD) (t : Int) (w : World) (hn : n ≤ 1048576) (hr : VRow w a n L) :
    Calls Tryz.prog 71 #[.slice a n c, .int .i64 t] w fun e w' => e = .returned (.int .i64 (cnt L t : Nat)) ∧ w' = w := by
  have LN := hide hr.1
  have R := hide hr
  clear hr
  go_enter Tryz.func71, Tryz.ntmps71
  go_wp2_with fail
  go_loopw [5] (fun i wr => ∃ k : Nat, k ≤ n ∧ i = .int .i64 k ∧ Hid (∀ i (h : i < L.length), i < k → L[i].t ≤ t) ∧ Hid (wr = w)) (fun i _ => n - (intOf i).toNat)
  case atStart => exact ⟨0, Nat.zero_le _, rfl, (fun i _ hi => absurd hi (Nat.not_lt_zero _)), hide rfl⟩
  case round =>
    obtain ⟨k, hk, rfl, hA, hww⟩ := hrel
    have hww := unhide hww
    subst wr
    by_cases hlt : k < n
    · have hk2 : k < L.length := by rw [unhide LN]; exact hlt
      obtain ⟨b, off, rfl, d0, d1, d2, d3⟩ := (unhide R).2 k hk2
      have FY := hide (fun (h : L[k].t ≤ t) i (hi : i < L.length) (hik : i < k + 1) => show L[i].t ≤ t from if e : i < k then unhide hA i hi e else by
        obtain rfl : i = k := by omega
        exact h)
      have FZ := hide (fun (h : ¬ L[k].t ≤ t) => cnt_step hk2 (unhide hA) h)
      generalize L[k] = pd at *
      obtain ⟨pk, pt, pv, pg⟩ := pd
      simp only at d1 FY FZ
      clear d0 d2 d3 hA
      by_cases ht : pt ≤ t
      · have Z := hide (unhide FY ht)
        clear FY FZ
        go_wp2_with fail
        go_roundw
        case rel => exact ⟨k + 1, by omega, by go_num, unhide Z, by first | exact hide rfl | exact hide trivial⟩
        case measure => simp [intOf]; omega
      · have Z := hide (unhide FZ ht)
        clear FY FZ
        go_wp2_with fail
        go_ret
        exact ⟨ret_int (by rw [unhide Z]), rfl⟩
    · obtain rfl : k = n := by omega
      have Z := hide (show cnt L t = k by rw [cnt_all fun i h => unhide hA i h (by have := unhide LN; omega)]; exact unhide LN)
      go_wp2_with fail
      go_ret
      exact ⟨ret_int (by rw [unhide Z]), rfl⟩
theorem vowns_slice2 {w : World} {B : Nat} {v : Value} {ds : List VerD} (h : VOwns w B v ds) : ∃ a c, v = .slice a ds.length c := by
  rcases h.2 with ⟨rfl, hn⟩ | ⟨g, cap, cur, rfl, _⟩
  · exact ⟨none, 0, by rw [hn]⟩
  · exact ⟨_, _, rfl⟩
theorem wpList_lookup_his (w : World) {ops : Array Oper} {rest : List Oper} {o : Oper} {a : Act} {Q : Exit → Act → World → Prop}
    (hg : o.guard = none) (m x : Operand) (hop : o.op = Op.lookup 71 m x false) (b : Nat) (k : ByteArray) (v : Value) (hm : a.eval m = .map (some b)) (hx : a.eval x = .string k)
    (hrun : (Instr.lookup 71 (.map (some b)) (.string k) false).run Tryz.prog w = .ok v w) (hK : wpList Tryz.prog ops Q rest (a.put o.dst v) w) : wpList Tryz.prog ops Q (o :: rest) a w := by
  refine wpList_plain hg fun K' hK' => ?_
  unfold Oper.wp
  simp [execOp, hop, hm, hx, hrun, Result.andThen]
  exact hK' _ _ hK
end Go.Proofs.YtfajenejngddeaaGreat

namespace Go.Proofs.YtfajenejngddeaaGreat
open Go.RowKit Go.Maps Go.Sort

theorem HMap.congr {w : World} {m N : Nat} {f g : ByteArray → Value} (h : HMap w m N f) (e : ∀ k : ByteArray, k.size ≤ maxLen → f k = g k) : HMap w m N g := by
  obtain ⟨D, h1, h2, h3⟩ := h
  exact ⟨D, h1, fun k hk => by rw [← e k hk]; exact h2 k hk, fun k hk => by rw [← e k hk]; exact h3 k hk⟩
/-- A history that is only read. -/
structure HisRd (w : World) (m N : Nat) (f : ByteArray → Value) (ds : List VerD) : Prop where
  map : HMap w m N f
  row : ∀ k, ∃ a c, f k = .slice a (grp ds k).length c ∧ VRow w a (grp ds k).length (grp ds k) ∧ (grp ds k).length ≤ c
  no : ∀ k, grp ds k = [] → f k = .slice none 0 0
theorem HisRd.below {w w' : World} {m N : Nat} {f : ByteArray → Value} {ds : List VerD} (h : HisRd w m N f ds) (hb : Below w.heap.size w w') : HisRd w' m N f ds :=
  ⟨h.map.block (hb.block m h.map.lt), fun k => by obtain ⟨a, c, e, r, hc⟩ := h.row k; exact ⟨a, c, e, r.below hb, hc⟩, h.no⟩
theorem HisAt.rd {w : World} {m N B : Nat} {f : ByteArray → Value} {ds : List VerD} (h : HisAt w m N B f ds) : HisRd w m N f ds :=
  ⟨h.map, fun k => by
    obtain ⟨a, c, e⟩ := vowns_slice2 (h.own k)
    have ho := h.own k
    rw [e] at ho
    refine ⟨a, c, e, vrow_of_owns ho, ?_⟩
    rcases ho.2 with ⟨e2, h0⟩ | ⟨g, cap, cur, e2, _, _, hc, _⟩
    · omega
    · injection e2 with _ _ e2; omega, h.no⟩
/-- The row from a place on. -/
def subS (v : Value) (p : Nat) : Value := match v with
  | .slice (some a) n c => .slice (some ⟨a.block, a.off + p * 4, a.spot⟩) (n - p) (c - p)
  | v => v
/-- What is left of a key's row. -/
def prS (v : Value) (L : List VerD) (t : Int) : Value := if frP L t < L.length then subS v (frP L t) else .slice none 0 0
theorem prS_nil {v : Value} {L : List VerD} {t : Int} (h : L = []) : prS v L t = .slice none 0 0 := by
  unfold prS
  rw [if_neg (by rw [h]; simp)]
theorem vrow_sub {w : World} {g o n : Nat} {L : List VerD} (h : VRow w (some ⟨g, o, none⟩) n L) (p : Nat) : VRow w (some ⟨g, o + p * 4, none⟩) (n - p) (L.drop p) := by
  obtain ⟨h1, h2⟩ := h
  refine ⟨by rw [List.length_drop, h1], fun i hi => ?_⟩
  rw [List.length_drop] at hi
  obtain ⟨b, off, e, d0, d1, d2, d3⟩ := h2 (p + i) (by omega)
  injection e with e
  injection e with e1 e2 _
  subst e1 e2
  rw [List.getElem_drop]
  have q : o + p * 4 + i * 4 = o + (p + i) * 4 := by omega
  refine ⟨g, o + p * 4, rfl, ?_, ?_, ?_, ?_⟩
  · rw [q]; exact d0
  · rw [q]; exact d1
  · rw [q]; exact d2
  · rw [q]; exact d3
/-- What pruning leaves of a history. -/
theorem his_pr {w w' : World} {m N m2 N2 : Nat} {f F : ByteArray → Value} {ds : List VerD} {t : Int} (ok : okVs ds = true) (h : HisRd w m N f ds) (hb : Below w.heap.size w w') (hM : HMap w' m2 N2 F) (hF : ∀ k : ByteArray, k.size ≤ maxLen → F k = prS (f k) (grp ds k) t) : HisRd w' m2 N2 (fun k => prS (f k) (grp ds k) t) (prL ds t) := by
  refine ⟨hM.congr hF, fun k => ?_, fun k hk => ?_⟩
  · obtain ⟨a, c, e, r, hc⟩ := h.row k
    rw [grp_pr ok]
    have hl := frP_le (grp ds k) t
    unfold prS
    by_cases hp : frP (grp ds k) t < (grp ds k).length
    · obtain ⟨b, off, ea, _⟩ := r.2 0 (by have := r.1; omega)
      subst ea
      rw [if_pos hp, e]
      have z := (vrow_sub r (frP (grp ds k) t)).below hb
      exact ⟨some ⟨b, off + frP (grp ds k) t * 4, none⟩, c - frP (grp ds k) t, by unfold subS; rw [List.length_drop], by rw [List.length_drop]; exact z, by rw [List.length_drop]; omega⟩
    · rw [if_neg hp]
      have e0 : (grp ds k).drop (frP (grp ds k) t) = [] := List.drop_eq_nil_of_le (by omega)
      rw [e0]
      exact ⟨none, 0, rfl, ⟨rfl, fun i hi => absurd hi (Nat.not_lt_zero _)⟩, Nat.le_refl _⟩
  · rw [grp_pr ok] at hk
    have hl := List.drop_eq_nil_iff.1 hk
    unfold prS
    rw [if_neg (by omega)]
set_option maxRecDepth 100000 in
set_option maxHeartbeats 8000000 in
theorem pruned_any (m N : Nat) (f : ByteArray → Value) (ds : List VerD) (t : Int) (w : World) (hH : HisRd w m N f ds) (ok : okVs ds = true) (hN : N ≤ 100000) (hds : ds.length ≤ 4096) :
    Calls Tryz.prog 35 #[.map (some m), .int .i64 t] w fun e w' => ∃ m2 N2, e = .returned (.map (some m2)) ∧ HisRd w' m2 N2 (fun k => prS (f k) (grp ds k) t) (prL ds t) ∧ w.heap.size ≤ m2 ∧ N2 ≤ 100000 ∧ Below w.heap.size w w' := by
  obtain ⟨D, h1, h2, h3⟩ := hH.map
  have hsz := h1.size_le
  have hml := h1.lt
  have R0 := hide (fun (u : World) (hb : Below w.heap.size w u) => (hH.below hb).row)
  have FIN := hide (fun (u : World) (m2 N2 : Nat) (F : ByteArray → Value) (hb : Below w.heap.size w u) (hM : HMap u m2 N2 F) (hF : ∀ k : ByteArray, k.size ≤ maxLen → F k = prS (f k) (grp ds k) t) => his_pr ok hH hb hM hF)
  have GL := hide (fun k => grp_len ds k)
  have KV := hide h2
  have ST := hide (show ∀ k : ByteArray, k.size ≤ maxLen → (.slice none 0 0 : Value) = if Maps.has D (.string k.data.toList) = true then .slice none 0 0 else prS (f k) (grp ds k) t from fun k hk => by
    by_cases e : Maps.has D (.string k.data.toList) = true
    · rw [if_pos e]
    · rw [if_neg e, prS_nil]
      have h4 : f k = .slice none 0 0 := Classical.byContradiction fun x => e ((h3 k hk).2 x)
      obtain ⟨a, c, e2, r, _⟩ := hH.row k
      rw [h4] at e2
      injection e2 with _ e2 _
      exact List.eq_nil_of_length_eq_zero e2.symm)
  have A1 := World.ownsMap.kept h1 (World.grownBy_alloc w (.map #[] 0) none) (by simp)
  have M0 := hmap_made w
  have ZW := hide (show (w.alloc (.map #[] 0)).heap.size = w.heap.size + 1 by simp)
  have hmm := @run_makeMap Tryz.prog
  clear hH h2 h3 h1
  go_enter Tryz.func35, Tryz.ntmps35
  go_wp2_with (first | (at_range; refine wpList_range_own _ rfl _ 71 rfl 9 23 (string_keyed Tryz.underlying9) Tryz.underlying71 _ m N D rfl A1 ?_; intro w0 hrg0 hg0 hs0))
  go_frame
  have HM0 := hide (M0.block (hg0.block w.heap.size (by rw [unhide ZW]; omega) (by simp)))
  have HB0 := hide (show Below w.heap.size w w0 from ((Below.refl w.heap.size w).alloc (Nat.le_refl _) _).grown hg0 (by rw [unhide ZW]; omega) (fun j hj => by cases hj))
  have HR0 := hide hrg0
  have hr1 : w.heap.size + 1 = (w.alloc (.map #[] 0)).heap.size := (unhide ZW).symm
  clear hg0 hs0 M0 A1 hrg0 ZW
  generalize (w.alloc (.map #[] 0)).heap.size = r at *
  have RW := hide hr1
  have rge : w.heap.size < r := by omega
  clear hr1
  go_loopw [12] (fun _ wr => ∃ (left : Lit → Bool) (q N2 : Nat) (F : ByteArray → Value), N2 + q ≤ Maps.size D ∧ Hid (wr.ranges Tryz.prog 9 hmElem m r N D left q) ∧ Hid (HMap wr w.heap.size N2 F) ∧ Hid (∀ k : ByteArray, k.size ≤ maxLen → F k = if left (.string k.data.toList) = true then .slice none 0 0 else prS (f k) (grp ds k) t) ∧ Hid (Below w.heap.size w wr)) (fun _ wr => wr.rangeLeft m r)
  case atStart => exact ⟨_, _, _, _, by omega, HR0, HM0, ST, HB0⟩
  case round =>
    clear HR0 HM0 ST HB0
    obtain ⟨left, q, N2, F, hq, hR, hM, hF, hB⟩ := hrel
    go_wp2_with (first | (at_next; refine wpList_next_ranges _ rfl _ rfl 9 (string_keyed Tryz.underlying9) hmElem encStr (fun v : Value => v) (fun key kl hk => by obtain ⟨x, hx, _⟩ := Maps.keyOf_str Tryz.underlying9 hk; exact ⟨x, hx⟩) (fun v y _ => ⟨v, rfl⟩) m r N D left q rfl (unhide hR) ?_ ?_))
    · intro _ hl0
      have RES := hide (unhide FIN wr w.heap.size N2 F (unhide hB) (unhide hM) (fun k hk => by rw [unhide hF k hk, hl0, if_neg (by decide)]))
      clear hl0 hF hM hR FIN
      go_wp2_with fail
      go_ret
      exact ⟨w.heap.size, N2, rfl, unhide RES, Nat.le_refl _, by omega, unhide hB⟩
    · intro x v kl yd yp w2 cnt2 hkey hlk hv hat hrg2 hlt hg2 hs2 hen
      obtain ⟨x', ex, rfl, hxl⟩ := Maps.keyOf_str Tryz.underlying9 hkey
      obtain rfl : x = x' := encStr_inj ex
      obtain ⟨k, hk⟩ : ∃ k : ByteArray, k = ⟨x.toArray⟩ := ⟨_, rfl⟩
      have hkx : k.data.toList = x := by rw [hk]
      have hks : k.size ≤ maxLen := by rw [hk]; show x.toArray.size ≤ _; simpa using hxl
      have hvf : v = f k := by
        have h5 := unhide KV k hks
        rw [hkx, hat] at h5
        simp only [hmElem] at hv
        injection hv with hv
        injection hv with hv _
        rw [← hv] at h5
        injection h5
      have B2 : Below w.heap.size w w2 := (unhide hB).grown hg2 (unhide hB).size (fun j hj => by injection hj with hj; omega)
      obtain ⟨a, c, e1, r1, hc⟩ := unhide R0 w2 B2 k
      have hgl := unhide GL k
      have M2 : HMap w2 w.heap.size N2 F := (unhide hM).block (hg2.block w.heap.size (unhide hM).lt (fun e => by injection e with e; omega))
      have es : encStr x = .string k := by rw [hk]
      rw [es] at hen ⊢
      rw [hvf, e1] at hen ⊢
      have hcn := cnt_le (grp ds k) t
      -- what the new map has, whatever has come of this key
      have NEW := hide (show ∀ G : ByteArray → Value, G k = prS (f k) (grp ds k) t → (∀ j, j ≠ k → G j = F j) → ∀ j : ByteArray, j.size ≤ maxLen → G j = if (left (.string j.data.toList) && !(Lit.string j.data.toList).sameKey (.string x)) = true then .slice none 0 0 else prS (f j) (grp ds j) t from fun G h1 h2 j hj => by
        by_cases e : j = k
        · subst e
          rw [hkx, h1, if_neg (by simp [Lit.sameKey])]
        · have e3 : (Lit.string j.data.toList).sameKey (.string x) = false := by
            rw [← hkx]
            simp only [Lit.sameKey]
            rw [beq_eq_false_iff_ne]
            exact fun e4 => e (hm_inj e4)
          rw [h2 j e, unhide hF j hj, e3]
          simp)
      have OUT := hide (show F k = .slice none 0 0 by rw [unhide hF k hks, hkx, if_pos hlk])
      have LE := hide (show w2.rangeLeft m r < wr.rangeLeft m r by rw [hrg2.left_eq, (unhide hR).left_eq]; exact hlt)
      have LV := hide hlt
      have UPD := hide (fun (u : Value) (hu : u ≠ .slice none 0 0) => M2.update hks (show N2 < maxLen by unfold maxLen; omega) u hu)
      have CU := hide (countUpTo_any a (grp ds k).length c (grp ds k) t w2 (by omega) r1)
      have R2 := hide hrg2
      have BB2 := hide B2
      have MM2 := hide M2
      have PRS := hide (show prS (f k) (grp ds k) t = if frP (grp ds k) t < (grp ds k).length then subS (.slice a (grp ds k).length c) (frP (grp ds k) t) else .slice none 0 0 by rw [← e1]; rfl)
      have ROW := hide r1
      have hL4 : (grp ds k).length ≤ 4096 := by omega
      clear hkey hlk hv hat hrg2 hlt hg2 hs2 ex hvf e1 r1 M2 B2 hF hR hM hB hk hgl hxl es
      have FR : frP (grp ds k) t = if 0 < cnt (grp ds k) t ∧ ((grp ds k).getD (cnt (grp ds k) t - 1) noV).g = false then cnt (grp ds k) t - 1 else cnt (grp ds k) t := rfl
      generalize grp ds k = L at *
      go_wp2_with fail
      refine (unhide CU).mono ?_
      rintro e w3 ⟨rfl, hw3⟩
      subst w3
      clear CU hen
      generalize cnt L t = qn at *
      by_cases h0 : 0 < qn
      · have hql : qn - 1 < L.length := by omega
        obtain ⟨b, off, ea, -, -, -, d3⟩ := (unhide ROW).2 (qn - 1) hql
        subst ea
        have hgd : L.getD (qn - 1) noV = L[qn - 1] := getD_is hql
        have z1 : (0 : Int) < (qn : Int) := by omega
        have z2 : (0 : Int) ≤ (qn : Int) - 1 := by omega
        have z3 : (qn : Int) - 1 < (L.length : Int) := by omega
        have z4 : ((qn : Int) - 1).toNat = qn - 1 := by omega
        have z5 : IntKind.i64.wrap ((qn : Int) - 1) = (qn : Int) - 1 := by rw [IntKind.wrap_i64]; omega
        rw [hgd] at FR
        cases hg : L[qn - 1].g with
        | false =>
          rw [hg] at d3 FR
          clear hg hgd
          have FP : frP L t = qn - 1 := by rw [FR, if_pos ⟨h0, rfl⟩]
          have PV := hide (show prS (f k) L t = .slice (some ⟨b, off + (qn - 1) * 4, none⟩) (L.length - (qn - 1)) (c - (qn - 1)) by rw [unhide PRS, FP, if_pos (by omega)]; rfl)
          obtain ⟨w3, hr3, M3, g3⟩ := unhide UPD (.slice (some ⟨b, off + (qn - 1) * 4, none⟩) (L.length - (qn - 1)) (c - (qn - 1))) (by simp)
          have NF := hide (unhide NEW (fun x => if x = k then .slice (some ⟨b, off + (qn - 1) * 4, none⟩) (L.length - (qn - 1)) (c - (qn - 1)) else F x) (by rw [unhide PV]; exact if_pos rfl) (fun j e => if_neg e))
          have R3 := hide ((unhide R2).kept g3 (fun e => by injection e with e; omega) (fun e => by injection e with e; omega))
          have B3 := hide ((unhide BB2).grown g3 (unhide BB2).size (fun j hj => by injection hj with hj; omega))
          have LE3 := hide (show w3.rangeLeft m r < wr.rangeLeft m r by rw [(unhide R3).left_eq, ← (unhide R2).left_eq]; exact unhide LE)
          have MM3 := hide M3
          have lv := unhide LV
          clear M3 g3 PV NEW UPD R2 BB2 MM2 OUT LE FP FR LV PRS ROW
          skip
          go_wp2_with fail
          go_roundw
          case rel => exact ⟨_, cnt2, N2 + 1, _, by omega, R3, MM3, NF, B3⟩
          case measure => exact unhide LE3
        | true =>
          rw [hg] at d3 FR
          clear hg hgd
          have FQ : frP L t = qn := by rw [FR, if_neg (fun x => by exact absurd x.2 (by decide))]
          by_cases hp : qn < L.length
          · have z6 : (qn : Int) < (L.length : Int) := by omega
            have FP : frP L t = qn := FQ
            have PV := hide (show prS (f k) L t = .slice (some ⟨b, off + (qn) * 4, none⟩) (L.length - (qn)) (c - (qn)) by rw [unhide PRS, FP, if_pos (by omega)]; rfl)
            obtain ⟨w3, hr3, M3, g3⟩ := unhide UPD (.slice (some ⟨b, off + (qn) * 4, none⟩) (L.length - (qn)) (c - (qn))) (by simp)
            have NF := hide (unhide NEW (fun x => if x = k then .slice (some ⟨b, off + (qn) * 4, none⟩) (L.length - (qn)) (c - (qn)) else F x) (by rw [unhide PV]; exact if_pos rfl) (fun j e => if_neg e))
            have R3 := hide ((unhide R2).kept g3 (fun e => by injection e with e; omega) (fun e => by injection e with e; omega))
            have B3 := hide ((unhide BB2).grown g3 (unhide BB2).size (fun j hj => by injection hj with hj; omega))
            have LE3 := hide (show w3.rangeLeft m r < wr.rangeLeft m r by rw [(unhide R3).left_eq, ← (unhide R2).left_eq]; exact unhide LE)
            have MM3 := hide M3
            have lv := unhide LV
            clear M3 g3 PV NEW UPD R2 BB2 MM2 OUT LE FP FR LV PRS ROW
            skip
            go_wp2_with fail
            go_roundw
            case rel => exact ⟨_, cnt2, N2 + 1, _, by omega, R3, MM3, NF, B3⟩
            case measure => exact unhide LE3
          · have z6 : ¬ (qn : Int) < (L.length : Int) := by omega
            have NF := hide (unhide NEW F (by rw [unhide OUT, unhide PRS, FQ, if_neg (by omega)]) (fun j _ => rfl))
            have lv := unhide LV
            clear NEW UPD OUT FR LV PRS ROW
            go_wp2_with fail
            go_roundw
            case rel => exact ⟨_, cnt2, N2, F, by omega, R2, MM2, NF, BB2⟩
            case measure => exact unhide LE
      · obtain rfl : qn = 0 := by omega
        have FQ : frP L t = 0 := by rw [FR, if_neg (fun x => by exact absurd x.1 (by omega))]
        by_cases hp : 0 < L.length
        · obtain ⟨b, off, ea, -⟩ := (unhide ROW).2 0 hp
          subst ea
          have FP : frP L t = 0 := FQ
          have PV := hide (show prS (f k) L t = .slice (some ⟨b, off + (0) * 4, none⟩) (L.length - (0)) (c - (0)) by rw [unhide PRS, FP, if_pos (by omega)]; rfl)
          obtain ⟨w3, hr3, M3, g3⟩ := unhide UPD (.slice (some ⟨b, off + (0) * 4, none⟩) (L.length - (0)) (c - (0))) (by simp)
          have NF := hide (unhide NEW (fun x => if x = k then .slice (some ⟨b, off + (0) * 4, none⟩) (L.length - (0)) (c - (0)) else F x) (by rw [unhide PV]; exact if_pos rfl) (fun j e => if_neg e))
          have R3 := hide ((unhide R2).kept g3 (fun e => by injection e with e; omega) (fun e => by injection e with e; omega))
          have B3 := hide ((unhide BB2).grown g3 (unhide BB2).size (fun j hj => by injection hj with hj; omega))
          have LE3 := hide (show w3.rangeLeft m r < wr.rangeLeft m r by rw [(unhide R3).left_eq, ← (unhide R2).left_eq]; exact unhide LE)
          have MM3 := hide M3
          have lv := unhide LV
          clear M3 g3 PV NEW UPD R2 BB2 MM2 OUT LE FP FR LV PRS ROW
          simp only [Nat.zero_mul, Nat.add_zero, Nat.sub_zero] at hr3
          go_wp2_with fail
          go_roundw
          case rel => exact ⟨_, cnt2, N2 + 1, _, by omega, R3, MM3, NF, B3⟩
          case measure => exact unhide LE3
        · have hL0 : L.length = 0 := by omega
          have NF := hide (unhide NEW F (by rw [unhide OUT, unhide PRS, FQ, if_neg (by omega)]) (fun j _ => rfl))
          have lv := unhide LV
          clear NEW UPD OUT FR LV PRS ROW
          go_wp2_with fail
          go_roundw
          case rel => exact ⟨_, cnt2, N2, F, by omega, R2, MM2, NF, BB2⟩
          case measure => exact unhide LE
end Go.Proofs.YtfajenejngddeaaGreat
