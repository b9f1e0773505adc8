/-
  impl.historyOf.
-/
import Derived.Test.YtdnneomdokcpeaaHmA
import Derived.Deep.Cut
namespace Go.Proofs.Ytdnneomdokcpeaa
open Go.RowKit Go.Maps

theorem hm_heap_lt {w : World} {b : Nat} {o : Obj} (h : w.heap[b]? = some o) : b < w.heap.size := (Array.getElem?_eq_some_iff.1 h).1
/-- A map's update, as one step of a region that draws. -/
theorem hm_stepUpd {P : Program} {ops : Array Oper} {o : Oper} {a : Act} {w : World} {K : Act → World → Prop} {Q : Exit → Act → World → Prop} {E : Prop}
    (hg : o.guard = none) (m x v : Operand) (t : TypeId) (hop : o.op = Op.mapUpdate t m x v) (vm vx vv : Value) (w' : World) (hm : a.eval m = vm) (hx : a.eval x = vx) (hv : a.eval v = vv)
    (hrun : (Instr.mapUpdate t vm vx vv).run P w = .ok () w') (hK : K (a.put o.dst undef) w') :
    if Region.wanted o (yielded ops a.tmps) = true then Oper.wp P o a w K Q else E := by
  have hw : Region.wanted o (yielded ops a.tmps) = true := by simp [Region.wanted, hg]
  rw [if_pos hw]
  unfold Oper.wp
  simp [execOp, hop, hm, hx, hv, hrun, Result.andThen]
  exact hK
/-- A look-up, and an append, as one step of a region that draws. -/
theorem hm_stepLook {P : Program} {ops : Array Oper} {o : Oper} {a : Act} {w : World} {K : Act → World → Prop} {Q : Exit → Act → World → Prop} {E : Prop}
    (hg : o.guard = none) (m x : Operand) (t : TypeId) (hop : o.op = Op.lookup t m x false) (vm vx v : Value) (hm : a.eval m = vm) (hx : a.eval x = vx)
    (hrun : (Instr.lookup t vm vx false).run P w = .ok v w) (hK : K (a.put o.dst v) w) :
    if Region.wanted o (yielded ops a.tmps) = true then Oper.wp P o a w K Q else E := by
  have hw : Region.wanted o (yielded ops a.tmps) = true := by simp [Region.wanted, hg]
  rw [if_pos hw]
  unfold Oper.wp
  simp [execOp, hop, hm, hx, hrun, Result.andThen]
  exact hK
theorem cb_stepApp2 {P : Program} {ops : Array Oper} {o : Oper} {a : Act} {w : World} {K : Act → World → Prop} {Q : Exit → Act → World → Prop} {E : Prop}
    (hg : o.guard = none) (s x : Operand) (t : TypeId) (hop : o.op = Op.call { callee := Callee.builtin Builtin.append, args := #[s, x], argTypes := #[t, t] })
    (vs vx v' : Value) (w' : World) (hs : a.eval s = vs) (hx : a.eval x = vx) (hrun : (Builtin.append_ #[t, t] o.type #[vs, vx]).run P w = .ok v' w') (hK : K (a.put o.dst v') w') :
    if Region.wanted o (yielded ops a.tmps) = true then Oper.wp P o a w K Q else E := by
  have hw : Region.wanted o (yielded ops a.tmps) = true := by simp [Region.wanted, hg]
  rw [if_pos hw]
  unfold Oper.wp
  simp [execOp, hop, resolve, invoke, builtin, hs, hx, hrun, Result.andThen]
  exact hK
/-- A version put behind those of its key. -/
theorem HisAt.step {w w1 : World} {m N B : Nat} {f : ByteArray → Value} {ds : List VerD} (h : HisAt w m N B f ds) (d : VerD) (hk : d.k.size ≤ maxLen) (hN : N < maxLen) {v' : Value} (o1 : VOwns w1 B v' (grp ds d.k ++ [d]))
    (gr1 : (w.alloc (.cells #[.string d.k, .int .i64 d.t, .string d.v, .bool d.g] 52)).grownBy w1 (f d.k).ownBlock) (loc : v'.ownBlock = (f d.k).ownBlock ∨ v'.ownBlock = some (w.heap.size + 1)) :
    ∃ w2, (Instr.mapUpdate 90 (.map (some m)) (.string d.k) v').run Try.prog w1 = .ok () w2 ∧ HisAt w2 m (N + 1) B (fun x => if x = d.k then v' else f x) (ds ++ [d]) ∧ Below m w w1 ∧ Below m w w2 ∧
      ∀ i, i < w.heap.size → i ≠ m → (f d.k).ownBlock ≠ some i → w1.heap[i]? = w.heap[i]? ∧ w2.heap[i]? = w.heap[i]? := by
  have hmw := h.map.lt
  have hmb := h.mb
  have hB : ∀ k g, (f k).ownBlock = some g → B ≤ g ∧ g < w.heap.size := fun k g e => (h.own k).lt g e
  have bA : Below w.heap.size w (w.alloc (.cells #[.string d.k, .int .i64 d.t, .string d.v, .bool d.g] 52)) := (Below.refl _ _).alloc (Nat.le_refl _) _
  have hA : ∀ i, i < w.heap.size → (f d.k).ownBlock ≠ some i → w1.heap[i]? = w.heap[i]? := fun i hi hne => (gr1.block i (Nat.lt_of_lt_of_le hi bA.size) (fun e => hne e.symm)).trans (bA.block i hi)
  have hM1 : HMap w1 m N f := h.map.block (hA m hmw (fun e => by have := (hB _ _ e).1; omega))
  obtain ⟨w2, hr2, hm2, gr2⟩ := hM1.update hk hN v' (fun e => by subst e; have h1 := o1.2; simp at h1)
  have hs1 : w.heap.size ≤ w1.heap.size := Nat.le_trans bA.size gr1.size
  have hA2 : ∀ i, i < w.heap.size → i ≠ m → (f d.k).ownBlock ≠ some i → w2.heap[i]? = w.heap[i]? := fun i hi hm' hne => (gr2.block i (Nat.lt_of_lt_of_le hi hs1) (fun e => hm' (by injection e))).trans (hA i hi hne)
  refine ⟨w2, hr2, ⟨hm2, fun k => ?_, fun k j hkj g hg hj => ?_, hmb, fun k hk0 => ?_⟩, ?_, ?_, fun i hi hm' hne => ⟨hA i hi hne, hA2 i hi hm' hne⟩⟩
  · show VOwns w2 B (if k = d.k then v' else f k) (grp (ds ++ [d]) k)
    by_cases e : k = d.k
    · subst e
      rw [if_pos rfl, grp_snoc_same]
      exact World.ownsRow.kept o1 gr2 (by
        cases hu : v'.ownBlock with
        | none => exact .inl rfl
        | some g => exact .inr fun e => by have h1 := (o1.lt g hu).1; injection e with e; omega)
    · rw [if_neg e, grp_snoc_other _ _ e]
      refine World.ownsRow.kept (World.ownsRow.kept (vowns_below (h.own k) bA) gr1 ?_) gr2 ?_
      · cases hu : (f k).ownBlock with
        | none => exact .inl rfl
        | some g => exact .inr fun e' => h.far k d.k e g hu e'.symm
      · cases hu : (f k).ownBlock with
        | none => exact .inl rfl
        | some g => exact .inr fun e' => by have h1 := (hB k g hu).1; injection e' with e'; omega
  · revert hg hj
    show (if k = d.k then v' else f k).ownBlock = some g → (if j = d.k then v' else f j).ownBlock = some g → False
    intro hg hj
    by_cases e : k = d.k
    · have e2 : ¬ j = d.k := fun e2 => hkj (e.trans e2.symm)
      rw [if_pos e] at hg
      rw [if_neg e2] at hj
      rcases loc with l1 | l1
      · exact h.far j d.k e2 g hj (l1.symm.trans hg)
      · have h1 := (hB j g hj).2
        rw [l1] at hg
        injection hg with hg
        omega
    · rw [if_neg e] at hg
      by_cases e2 : j = d.k
      · rw [if_pos e2] at hj
        rcases loc with l1 | l1
        · exact h.far k d.k e g hg (l1.symm.trans hj)
        · have h1 := (hB k g hg).2
          rw [l1] at hj
          injection hj with hj
          omega
      · rw [if_neg e2] at hj
        exact h.far k j hkj g hg hj
  · show (if k = d.k then v' else f k) = _
    by_cases e : k = d.k
    · subst e
      rw [grp_snoc_same] at hk0
      simp at hk0
    · rw [if_neg e]
      rw [grp_snoc_other _ _ e] at hk0
      exact h.no k hk0
  · exact ⟨gr1.os.trans bA.os, gr1.tape.trans bA.tape, gr1.output.trans bA.output, hs1, fun i hi => hA i (by omega) (fun e => by have := (hB _ _ e).1; omega)⟩
  · exact ⟨gr2.os.trans (gr1.os.trans bA.os), gr2.tape.trans (gr1.tape.trans bA.tape), gr2.output.trans (gr1.output.trans bA.output), Nat.le_trans hs1 gr2.size, fun i hi => hA2 i (by omega) (by omega) (fun e => by have := (hB _ _ e).1; omega)⟩
set_option maxRecDepth 100000 in
set_option maxHeartbeats 4000000 in
theorem historyOf_any (a : Option Addr) (n c : Nat) (ds : List VerD) (w : World) (hn : n ≤ 4096) (hr : VRow w a n ds) (hs : ∀ i (hi : i < ds.length), ds[i].k.size ≤ maxLen) :
    Calls Try.prog 53 #[.slice a n c] w fun e w' => ∃ f, e = .returned (.map (some w.heap.size)) ∧ HisAt w' w.heap.size n (w.heap.size + 1) f ds ∧ Below w.heap.size w w' := by
  have hmm := @run_makeMap Try.prog
  have L := hide hr.1
  have R := hide hr
  have HS := hide hs
  have H0 := hide (show HisAt (w.alloc (.map #[] 0)) w.heap.size 0 (w.heap.size + 1) (fun _ => .slice none 0 0) [] from
    ⟨hmap_made w, fun k => World.ownsRow_nil _ _ _ _, fun k j h g e => by simp [Value.ownBlock] at e, by omega, fun _ _ => rfl⟩)
  have B0 := hide (show Below w.heap.size w (w.alloc (.map #[] 0)) from (Below.refl _ _).alloc (Nat.le_refl _) _)
  clear hr hs
  go_enter Try.func53, Try.ntmps53
  go_wp2_with fail
  go_loopw [9] (fun i wr => ∃ (j : Nat) (f : ByteArray → Value), i = .int .i64 (j : Int) ∧ j ≤ n ∧ Hid (HisAt wr w.heap.size j (w.heap.size + 1) f (ds.take j)) ∧ Hid (Below w.heap.size w wr)) (fun i _ => n - (intOf i).toNat)
  case atStart => exact ⟨0, _, rfl, Nat.zero_le _, unhide H0, unhide B0⟩
  case round =>
    clear H0 B0
    obtain ⟨j, f, rfl, hj, hH, hB⟩ := hrel
    by_cases hlt : j < n
    · have hj2 : j < ds.length := by rw [unhide L]; exact hlt
      obtain ⟨b, off, rfl, d0, d1, d2, d3⟩ := ((unhide R).below (unhide hB)).2 j hj2
      have hks := unhide HS j hj2
      have TS := hide (rb_take_snoc ds j hj2)
      have hln : (ds.take j).length ≤ 4096 := by rw [List.length_take]; omega
      have hsr := (unhide hB).size
      have hmw : w.heap.size < wr.heap.size := (unhide hH).map.lt
      generalize ds[j] = pd at *
      obtain ⟨pk, pt, pv, pg⟩ := pd
      simp only at d0 d1 d2 d3 hks
      have B1 : Below wr.heap.size wr (wr.alloc (.cells #[.string pk, .int .i64 pt, .string pv, .bool pg] 52)) := (Below.refl _ _).alloc (Nat.le_refl _) _
      have BX := hide ((unhide hB).trans (B1.mono hsr))
      have HX := hide ((unhide hH).below B1)
      have KX := hide (heap_alloc_new wr (.cells #[.string pk, .int .i64 pt, .string pv, .bool pg] 52))
      have hsx : wr.heap.size + 1 = (wr.alloc (.cells #[.string pk, .int .i64 pt, .string pv, .bool pg] 52)).heap.size := by simp
      have FB : ∀ g, (f pk).ownBlock = some g → g < wr.heap.size := fun g e => (((unhide hH).own pk).lt g e).2
      clear hB hH B1
      go_upto_region 5 with fail
      clear d0 d1 d2 d3
      generalize wr.alloc (.cells #[.string pk, .int .i64 pt, .string pv, .bool pg] 52) = W at *
      generalize wr.heap.size = bx at *
      have SK := hide (show ∀ u, Below w.heap.size w u → u.heap[bx]? = some (.cells #[.string pk, .int .i64 pt, .string pv, .bool pg] 52 (0, 0)) → (fun u => Below w.heap.size w u ∧ u.cell? ⟨bx, 0, none⟩ = some (.string pk) ∧ u.cell? ⟨bx, 1, none⟩ = some (.int .i64 pt) ∧ u.cell? ⟨bx, 2, none⟩ = some (.string pv) ∧ u.cell? ⟨bx, 3, none⟩ = some (.bool pg)) u from fun u hb hk => ⟨hb, (heap_at hk 0).1, (heap_at hk 1).1, (heap_at hk 2).1, (heap_at hk 3).1⟩)
      have HD : HisAt W.drew w.heap.size j (w.heap.size + 1) f (ds.take j) := (unhide HX).below (Below.refl _ _).drew
      have bA : Below W.drew.heap.size W.drew (W.drew.alloc (.cells #[.string pk, .int .i64 pt, .string pv, .bool pg] 52)) := (Below.refl _ _).alloc (Nat.le_refl _) _
      have hWs : w.heap.size ≤ W.drew.heap.size := (unhide BX).size
      have BA := hide ((unhide BX).drew.trans (bA.mono hWs))
      have KA := hide ((bA.block bx (show bx < W.heap.size by omega)).trans (unhide KX))
      have LK := hide (show ∀ u, (u = W.drew ∨ u = W.drew.alloc (.cells #[.string pk, .int .i64 pt, .string pv, .bool pg] 52)) → (Instr.lookup 90 (.map (some w.heap.size)) (.string pk) false).run Try.prog u = .ok (f pk) u from fun u hu => by
        rcases hu with rfl | rfl
        · exact HD.map.lookup hks
        · exact (HD.below bA).map.lookup hks)
      have hgl := grp_len (ds.take j) pk
      obtain ⟨v1, w1, hr1, o1, gr1, loc1⟩ := hm_app (d := ⟨pk, pt, pv, pg⟩) (HD.own pk) (by omega) (show w.heap.size + 1 ≤ W.heap.size by omega)
      simp only at hr1 gr1
      obtain ⟨w2, hr2, HN', bb1, bb2, KN⟩ := HD.step ⟨pk, pt, pv, pg⟩ hks (by unfold maxLen; omega) o1 gr1 loc1
      have B1 := hide ((unhide BX).drew.trans bb1)
      have B2 := hide ((unhide BX).drew.trans bb2)
      have kn := KN bx (show bx < W.heap.size by omega) (by omega) (fun e => by have := FB bx e; omega)
      have K1 := hide (kn.1.trans (unhide KX))
      have K2 := hide (kn.2.trans (unhide KX))
      have HN := hide (show HisAt w2 w.heap.size (j + 1) (w.heap.size + 1) (fun x => if x = pk then v1 else f x) (ds.take (j + 1)) by rw [unhide TS]; exact HN')
      simp only at hr2
      clear HN' bb1 bb2 KN kn o1 gr1 loc1 HD bA hgl
      refine wp_region_held_drew (S := (fun u => Below w.heap.size w u ∧ u.cell? ⟨bx, 0, none⟩ = some (.string pk) ∧ u.cell? ⟨bx, 1, none⟩ = some (.int .i64 pt) ∧ u.cell? ⟨bx, 2, none⟩ = some (.string pv) ∧ u.cell? ⟨bx, 3, none⟩ = some (.bool pg))) (by kernel_rfl) (unhide SK _ (unhide BX).drew (unhide KX)) (fun hHeld => ?_)
      refine anyH_take 0 13 (v := ?v1) rfl rfl (by kernel_rfl) (by kernel_rfl) (by kernel_rfl) (fun _ _ _ h => h) (by rfl) ?h1 hHeld ?r1
      case h1 => (intro w hSw; (try dsimp only at hSw); go_simp; try (with_reducible rfl))
      simp only [Act.put, List.setIfInBounds_toArray, List.set_cons_zero, List.set_cons_succ]
      refine anyH_take 1 14 (v := ?v2) rfl rfl (by kernel_rfl) (by kernel_rfl) (by kernel_rfl) (fun _ _ _ h => h) (by rfl) ?h2 hHeld ?r2
      case h2 => (intro w hSw; (try dsimp only at hSw); go_simp; try (with_reducible rfl))
      simp only [Act.put, List.setIfInBounds_toArray, List.set_cons_zero, List.set_cons_succ]
      refine anyH_take 2 15 (v := ?v3) rfl rfl (by kernel_rfl) (by kernel_rfl) (by kernel_rfl) (fun _ _ _ h => h) (by rfl) ?h3 hHeld ?r3
      case h3 => (intro w hSw; (try dsimp only at hSw); go_simp; try (with_reducible rfl))
      simp only [Act.put, List.setIfInBounds_toArray, List.set_cons_zero, List.set_cons_succ]
      refine anyH_take 3 16 (v := ?v4) rfl rfl (by kernel_rfl) (by kernel_rfl) (by kernel_rfl) (fun _ _ _ h => h) (by rfl) ?h4 hHeld ?r4
      case h4 => (intro w hSw; (try dsimp only at hSw); go_simp; try (with_reducible rfl))
      simp only [Act.put, List.setIfInBounds_toArray, List.set_cons_zero, List.set_cons_succ]
      refine anyH_take 4 17 (v := ?v5) rfl rfl (by kernel_rfl) (by kernel_rfl) (by kernel_rfl) (fun _ _ _ h => h) (by rfl) ?h5 hHeld ?r5
      case h5 => (intro w hSw; (try dsimp only at hSw); go_simp; try (with_reducible rfl))
      simp only [Act.put, List.setIfInBounds_toArray, List.set_cons_zero, List.set_cons_succ]
      refine anyH_take 5 18 (v := ?v6) rfl rfl (by kernel_rfl) (by kernel_rfl) (by kernel_rfl) (fun _ _ _ h => h) (by rfl) ?h6 hHeld ?r6
      case h6 => (intro w hSw; (try dsimp only at hSw); go_simp; try (with_reducible rfl))
      simp only [Act.put, List.setIfInBounds_toArray, List.set_cons_zero, List.set_cons_succ]
      refine anyH_take 7 20 (v := ?v7) rfl rfl (by kernel_rfl) (by kernel_rfl) (by kernel_rfl) (fun _ _ _ h => h) (by rfl) ?h7 hHeld ?r7
      case h7 => (intro w hSw; (try dsimp only at hSw); go_simp; try (with_reducible rfl))
      simp only [Act.put, List.setIfInBounds_toArray, List.set_cons_zero, List.set_cons_succ]
      refine wpAnyH_ready (rs := [6, 8]) (by kernel_rfl) (by simp) ?_
      refine AllReadyH.cons rfl (fun K hK => ?_) (AllReadyH.cons rfl (fun K hK => ?_) AllReadyH.nil)
      · refine hm_stepLook rfl (.tmp 16) (.tmp 18) 90 rfl _ _ (f pk) (by first | rfl | (simp [Act.eval]; done) | (simp [Act.eval, Act.put]; done)) (by first | rfl | (simp [Act.eval]; done) | (simp [Act.eval, Act.put]; done)) (unhide LK _ (Or.inl rfl)) ?_
        refine hK.out _ _ (unhide SK _ (unhide BX).drew (unhide KX)) (fun hHeld => ?_)
        clear hK K
        simp only [Act.put, List.setIfInBounds_toArray]
        refine wpAnyH_ready (rs := [8]) (by kernel_rfl) (by simp) ?_
        refine AllReadyH.cons rfl (fun K hK => ?_) AllReadyH.nil
        go_simp
        refine hK.out _ _ (unhide SK _ (unhide BA) (unhide KA)) (fun hHeld => ?_)
        clear hK K
        refine wpAnyH_ready (rs := [9]) (by kernel_rfl) (by simp) ?_
        refine AllReadyH.cons rfl (fun K hK => ?_) AllReadyH.nil
        refine cb_stepApp2 rfl (.tmp 19) (.tmp 21) 27 rfl _ _ v1 w1 (by first | rfl | (simp [Act.eval]; done) | (simp [Act.eval, Act.put]; done)) (by first | rfl | (simp [Act.eval]; done) | (simp [Act.eval, Act.put]; done)) hr1 ?_
        refine hK.out _ _ (unhide SK _ (unhide B1) (unhide K1)) (fun hHeld => ?_)
        clear hK K
        simp only [Act.put, List.setIfInBounds_toArray]
        refine wpAnyH_ready (rs := [10]) (by kernel_rfl) (by simp) ?_
        refine AllReadyH.cons rfl (fun K hK => ?_) AllReadyH.nil
        refine hm_stepUpd rfl (.tmp 13) (.tmp 15) (.tmp 22) 90 rfl _ _ _ w2 (by first | rfl | (simp [Act.eval]; done) | (simp [Act.eval, Act.put]; done)) (by first | rfl | (simp [Act.eval]; done) | (simp [Act.eval, Act.put]; done)) (by first | rfl | (simp [Act.eval]; done) | (simp [Act.eval, Act.put]; done)) hr2 ?_
        refine hK.out _ _ (unhide SK _ (unhide B2) (unhide K2)) (fun hHeld => ?_)
        clear hK K
        refine wpAnyH_done (by kernel_rfl) ?_ _
        go_wp2_with fail
        go_roundw
        case rel => exact ⟨j + 1, _, by go_num, by omega, unhide HN, unhide B2⟩
        case measure => simp [intOf]; omega
      · go_simp
        refine hK.out _ _ (unhide SK _ (unhide BA) (unhide KA)) (fun hHeld => ?_)
        clear hK K
        refine wpAnyH_ready (rs := [6]) (by kernel_rfl) (by simp) ?_
        refine AllReadyH.cons rfl (fun K hK => ?_) AllReadyH.nil
        refine hm_stepLook rfl (.tmp 16) (.tmp 18) 90 rfl _ _ (f pk) (by first | rfl | (simp [Act.eval]; done) | (simp [Act.eval, Act.put]; done)) (by first | rfl | (simp [Act.eval]; done) | (simp [Act.eval, Act.put]; done)) (unhide LK _ (Or.inr rfl)) ?_
        refine hK.out _ _ (unhide SK _ (unhide BA) (unhide KA)) (fun hHeld => ?_)
        clear hK K
        simp only [Act.put]
        refine wpAnyH_ready (rs := [9]) (by kernel_rfl) (by simp) ?_
        refine AllReadyH.cons rfl (fun K hK => ?_) AllReadyH.nil
        refine cb_stepApp2 rfl (.tmp 19) (.tmp 21) 27 rfl _ _ v1 w1 (by first | rfl | (simp [Act.eval]; done) | (simp [Act.eval, Act.put]; done)) (by first | rfl | (simp [Act.eval]; done) | (simp [Act.eval, Act.put]; done)) hr1 ?_
        refine hK.out _ _ (unhide SK _ (unhide B1) (unhide K1)) (fun hHeld => ?_)
        clear hK K
        simp only [Act.put, List.setIfInBounds_toArray]
        refine wpAnyH_ready (rs := [10]) (by kernel_rfl) (by simp) ?_
        refine AllReadyH.cons rfl (fun K hK => ?_) AllReadyH.nil
        refine hm_stepUpd rfl (.tmp 13) (.tmp 15) (.tmp 22) 90 rfl _ _ _ w2 (by first | rfl | (simp [Act.eval]; done) | (simp [Act.eval, Act.put]; done)) (by first | rfl | (simp [Act.eval]; done) | (simp [Act.eval, Act.put]; done)) (by first | rfl | (simp [Act.eval]; done) | (simp [Act.eval, Act.put]; done)) hr2 ?_
        refine hK.out _ _ (unhide SK _ (unhide B2) (unhide K2)) (fun hHeld => ?_)
        clear hK K
        refine wpAnyH_done (by kernel_rfl) ?_ _
        go_wp2_with fail
        go_roundw
        case rel => exact ⟨j + 1, _, by go_num, by omega, unhide HN, unhide B2⟩
        case measure => simp [intOf]; omega
    · obtain rfl : j = n := by omega
      have Z := hide (show HisAt wr w.heap.size j (w.heap.size + 1) f ds by
        have := unhide hH
        rwa [List.take_of_length_le (by rw [unhide L]; exact Nat.le_refl _)] at this)
      go_wp2_with fail
      go_ret
      exact ⟨f, rfl, unhide Z, unhide hB⟩
end Go.Proofs.Ytdnneomdokcpeaa
