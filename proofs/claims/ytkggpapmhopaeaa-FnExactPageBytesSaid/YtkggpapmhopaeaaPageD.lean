/-
  slices.Insert and slices.Delete over entries of the call's own.
-/
import Derived.Test.YtkggpapmhopaeaaPageC
import Derived.Laws.CopyRow
import Derived.Laws.Externs
import Derived.Laws.IdiomCopy
import Derived.Lib.Overlaps
import Derived.Lib.AppendZerosOnto
import Derived.Deep.RegionLaw
import Derived.Lib.SliceRun
namespace Go.Proofs.Ytkggpapmhopaeaa
open Go.RowKit

theorem Try.infoEntry : (Try.prog.info? 58).map (fun i => (i.zero, i.size, i.bytes)) = some (some (.agg #[.string ByteArray.empty, .string ByteArray.empty]), 2, 32) := by kernel_rfl
theorem run_copy_row2 (w : World) (ty : TypeId) (g o dLen dCap : Nat) (a : Addr) (sLen sCap : Nat) (cur : Array Value) (cs : List Value)
    (hg : w.heap[g]? = some (.cells cur 58 (0, 0))) (hn : cs.length = Nat.min sLen dLen * 2)
    (hsrc : ∀ j v, cs[j]? = some v → w.cell? (a.add j) = some v) (hfit : o + cs.length ≤ cur.size) (h1 : ∀ v ∈ cs, v.oneCell' = true) :
    (Builtin.copy_ #[28, 28] ty #[.slice (some ⟨g, o, none⟩) dLen dCap, .slice (some a) sLen sCap]).run Try.prog w =
      .ok (goInt (Nat.min sLen dLen)) (w.setRow g (cur.toList.take o ++ cs ++ cur.toList.drop (o + cs.length)).toArray) := by
  have hl := run_loadCells_list (P := Try.prog) w a cs hsrc
  have hst := run_storeCells_at Try.prog g o 58 cs 0 cur w hg (by simpa using hfit) h1
  obtain ⟨i, hq, _, hi, _⟩ := info_parts Try.infoEntry
  simp [Builtin.copy_, run_underlying Try.underlying28, Builtin.lenOf, Builtin.firstCells, sizeOf, typeInfo, hq, hi, ← hn, hl, hst]
/-- A copy whose run is known, as one step of a region that draws. -/
theorem stepCopyE {P : Program} {ops : Array Oper} {o : Oper} {a : Act} {w : World} {K : Act → World → Prop} {Q : Exit → Act → World → Prop} {E : Prop}
    (hg : o.guard = none) (s x : Operand) (t : TypeId) (hop : o.op = Op.call { callee := Callee.builtin Builtin.copy, args := #[s, x], argTypes := #[t, t] })
    (vs vx v' : Value) (w' : World) (hs : a.eval s = vs) (hx : a.eval x = vx) (hrun : (Builtin.copy_ #[t, t] o.type #[vs, vx]).run P w = .ok v' w') (hK : K (a.put o.dst v') w') :
    if Region.wanted o (yielded ops a.tmps) = true then Oper.wp P o a w K Q else E := by
  have hw : Region.wanted o (yielded ops a.tmps) = true := by simp [Region.wanted, hg]
  rw [if_pos hw]
  unfold Oper.wp
  simp [execOp, hop, resolve, invoke, builtin, hs, hx, hrun, Result.andThen]
  exact hK
/-- A copy whose run is known, elsewhere. -/
theorem wpCopyE {P : Program} {ops : Array Oper} {rest : List Oper} {o : Oper} {a : Act} {w : World} {Q : Exit → Act → World → Prop}
    (hg : o.guard = none) (s x : Operand) (t : TypeId) (hop : o.op = Op.call { callee := Callee.builtin Builtin.copy, args := #[s, x], argTypes := #[t, t] })
    (vs vx v' : Value) (w' : World) (hs : a.eval s = vs) (hx : a.eval x = vx) (hrun : (Builtin.copy_ #[t, t] o.type #[vs, vx]).run P w = .ok v' w') (h : wpList P ops Q rest (a.put o.dst v') w') :
    wpList P ops Q (o :: rest) a w :=
  wpList_plain hg fun _ hK => by
    unfold Oper.wp
    simp [execOp, hop, resolve, invoke, builtin, hs, hx, hrun, Result.andThen]
    exact hK _ _ h
theorem setCells_row {w : World} {g o : Nat} {t : TypeId} {cur : Array Value} {vs : List Value} (hg : w.heap[g]? = some (.cells cur t (0, 0))) (hl : o + vs.length ≤ cur.size) (h1 : ∀ v ∈ vs, v.oneCell' = true) :
    w.setCells g o vs = w.setRow g (cur.toList.take o ++ vs ++ cur.toList.drop (o + vs.length)).toArray := by
  have a := run_storeCells_at Try.prog g o t vs 0 cur w hg (by simpa using hl) h1
  have b := run_storeCells_cells (P := Try.prog) g o vs 0 w (fun j hj => by simp [World.cell?, hg]; omega) (fun j hj => by simp [World.frozen?, hg]) h1
  rw [a] at b
  injection b with _ b
  simpa using b.symm
theorem grown_setRow (w : World) (g : Nat) (cs : Array Value) : w.grownBy (w.setRow g cs) (some g) :=
  ⟨rfl, rfl, rfl, by simp, fun k _ hk => setRow_other w g k cs (fun e => hk (by rw [e]))⟩
theorem grown_trans {w w1 w2 : World} {r : Option Nat} (h : w.grownBy w1 r) (k : w1.grownBy w2 r) : w.grownBy w2 r :=
  ⟨k.os.trans h.os, k.tape.trans h.tape, k.output.trans h.output, Nat.le_trans h.size k.size, fun i hi hne => (k.block i (Nat.lt_of_lt_of_le hi h.size) hne).trans (h.block i hi hne)⟩
theorem grown_new {w w1 : World} {r : Option Nat} (h : Below w.heap.size w w1) : w.grownBy w1 r := ⟨h.os, h.tape, h.output, h.size, fun k hk _ => h.block k hk⟩
set_option maxRecDepth 100000 in
set_option maxHeartbeats 4000000 in
theorem insert_end (B : Nat) (a : Option Addr) (c : Nat) (es : List EntD) (e : EntD) (vb : Nat) (w : World) (hown : EOwns w B (.slice a es.length c) es) (hlen : es.length ≤ 1000) (hB : B ≤ w.heap.size)
    (hv : w.heap[vb]? = some (.cells #[.string e.k, .string e.v] 58 (0, 0))) :
    Calls Try.prog 82 #[.slice a es.length c, .int .i64 (es.length : Int), .slice (some ⟨vb, 0, none⟩) 1 1] w fun x w' => ∃ v', x = .returned v' ∧ EOwns w' B v' (es ++ [e]) ∧ v' ≠ .slice none 0 0 ∧ w.grownBy w' (Value.slice a es.length c).ownBlock := by
  obtain ⟨i0, hi0, hz0, hz1, hz2⟩ := info_parts Try.infoEntry
  have hvs : ∀ j u, [Value.string e.k, Value.string e.v][j]? = some u → w.cell? ((⟨vb, 0, none⟩ : Addr).add j) = some u := fun j u hj => by
    match j, hj with
    | 0, hj => simp at hj; subst hj; simp [Addr.add, World.cell?, hv]
    | 1, hj => simp at hj; subst hj; simp [Addr.add, World.cell?, hv]
  have hcap : es.length ≤ c := by
    rcases hown.2 with ⟨e, hn⟩ | ⟨g, cap, cur, e, _, _, h1, _⟩
    · omega
    · injection e with _ _ e3; omega
  have HO := hide hown
  have HV := hide hvs
  clear hown hvs hv
  go_enter Try.func82, Try.ntmps82
  go_wp2_with (at_builtin; refine wpList_append_own _ rfl _ _ 28 rfl B 58 i0 (.agg #[.string ByteArray.empty, .string ByteArray.empty]) 2 32 Try.underlying28 hi0 hz0 hz1 hz2 rfl (by decide) _ _ _ rfl (unhide HO) ⟨vb, 0, none⟩ 1 1 [.string e.k, .string e.v] rfl rfl (unhide HV) (by intro u hu; simp at hu; rcases hu with rfl | rfl <;> rfl) (by unfold maxLen; omega) (by omega) hB ?_)
  all_goals
    intro v' w' h1 h2 h3
    have h1' : EOwns w' B v' (es ++ [e]) := by
      have := h1
      rw [← show ecs [e] = [.string e.k, .string e.v] from rfl, ← ecs_append] at this
      unfold EOwns
      rw [List.length_append]
      exact this
    have H1 := hide h1'
    have H2 := hide h2
    have H3 := hide h3
    clear h1 h2 h3 h1'
    go_wp2_with fail
    go_ret
    exact ⟨v', rfl, unhide H1, unhide H3, by have := unhide H2; cases a <;> exact this⟩
/-- A row of entries of the call's own, with an address. -/
theorem eowns_form {w : World} {B n c : Nat} {a : Option Addr} {es : List EntD} (h : EOwns w B (.slice a n c) es) (h0 : 0 < es.length) : ∃ g cur, a = some ⟨g, 0, none⟩ ∧ n = es.length ∧ B ≤ g ∧ w.heap[g]? = some (.cells cur 58 (0, 0)) ∧ n ≤ c ∧ c ≤ maxLen ∧ cur.size = c * 2 ∧ cur.toList.take (n * 2) = ecs es := by
  rcases h.2 with ⟨e, hn⟩ | ⟨g, cap, cur, e, hb, hh, h1, h2, h3, h4⟩
  · omega
  · injection e with e1 e2 e3
    subst e1 e2 e3
    exact ⟨g, cur, rfl, rfl, hb, hh, h1, h2, h3, h4⟩
theorem eowns_back {w : World} {B g c n : Nat} {es : List EntD} {cur : Array Value} (hb : B ≤ g) (hh : w.heap[g]? = some (.cells cur 58 (0, 0))) (hn : n = es.length) (h1 : n ≤ c) (h2 : c ≤ maxLen) (h3 : cur.size = c * 2) (h4 : cur.toList.take (n * 2) = ecs es) : EOwns w B (.slice (some ⟨g, 0, none⟩) n c) es := by
  subst hn
  exact ⟨ecs_len es, .inr ⟨g, c, cur, rfl, hb, hh, h1, h2, h3, h4⟩⟩
theorem shift_list {cur E : List Value} {p q : Nat} (x y : Value) (hE : cur.take q = E) (hq : E.length = q) (hp : p ≤ q) (hl : q + 2 ≤ cur.length) :
    (cur.take (p + 2) ++ E.drop p ++ cur.drop (p + 2 + (E.drop p).length)).length = cur.length ∧
    (((cur.take (p + 2) ++ E.drop p ++ cur.drop (p + 2 + (E.drop p).length)).take p ++ [x, y] ++ (cur.take (p + 2) ++ E.drop p ++ cur.drop (p + 2 + (E.drop p).length)).drop (p + 2)).length = cur.length) ∧
    ((cur.take (p + 2) ++ E.drop p ++ cur.drop (p + 2 + (E.drop p).length)).take p ++ [x, y] ++ (cur.take (p + 2) ++ E.drop p ++ cur.drop (p + 2 + (E.drop p).length)).drop (p + 2)).take (q + 2) = E.take p ++ x :: y :: E.drop p := by
  have l1 : (cur.take (p + 2)).length = p + 2 := by rw [List.length_take]; omega
  have l2 : (E.drop p).length = q - p := by rw [List.length_drop, hq]
  have t1 : (cur.take (p + 2) ++ E.drop p ++ cur.drop (p + 2 + (E.drop p).length)).take p = E.take p := by
    rw [List.append_assoc, List.take_append_of_le_length (by omega), List.take_take, ← hE, List.take_take]
    congr 1
    omega
  have t2 : (cur.take (p + 2) ++ E.drop p ++ cur.drop (p + 2 + (E.drop p).length)).drop (p + 2) = E.drop p ++ cur.drop (p + 2 + (E.drop p).length) := by
    rw [List.append_assoc, List.drop_append_of_le_length (by omega), List.drop_of_length_le (by omega), List.nil_append]
  have l3 : (cur.drop (p + 2 + (q - p))).length = cur.length - (q + 2) := by rw [List.length_drop]; omega
  have l4 : (E.take p).length = p := by rw [List.length_take]; omega
  refine ⟨?_, ?_, ?_⟩
  · simp only [List.length_append, l1, l2, l3]; omega
  · rw [t1, t2]
    simp only [List.length_append, l2, l3, l4, List.length_cons, List.length_nil]; omega
  · rw [t1, t2, show E.take p ++ [x, y] ++ (E.drop p ++ cur.drop (p + 2 + (E.drop p).length)) = (E.take p ++ x :: y :: E.drop p) ++ cur.drop (p + 2 + (E.drop p).length) by simp]
    rw [List.take_append_of_le_length (by simp only [List.length_append, List.length_cons, l2, l4]; omega), List.take_of_length_le (by simp only [List.length_append, List.length_cons, l2, l4]; omega)]
set_option maxRecDepth 100000 in
set_option maxHeartbeats 4000000 in
theorem insert_room (B g c n i : Nat) (es : List EntD) (e : EntD) (vb : Nat) (cur : Array Value) (w : World) (hb : B ≤ g) (hh : w.heap[g]? = some (.cells cur 58 (0, 0))) (hn : n = es.length) (h1 : n + 1 ≤ c) (h2 : c ≤ maxLen) (h3 : cur.size = c * 2) (h4 : cur.toList.take (n * 2) = ecs es)
    (hi : i < n) (hlen : n ≤ 1000) (hv : w.heap[vb]? = some (.cells #[.string e.k, .string e.v] 58 (0, 0))) (hne : vb ≠ g) :
    Calls Try.prog 82 #[.slice (some ⟨g, 0, none⟩) n c, .int .i64 (i : Int), .slice (some ⟨vb, 0, none⟩) 1 1] w fun x w' => ∃ v', x = .returned v' ∧ EOwns w' B v' (es.take i ++ e :: es.drop i) ∧ v' ≠ .slice none 0 0 ∧ w.grownBy w' (some g) := by
  have hel := ecs_len es
  have hc63 : c ≤ 9223372036854775807 := by unfold maxLen at h2; omega
  have hz1 : ¬ ((i : Int) = (n : Int)) := by omega
  have hov : ∀ lb cb, (callFunc 83 #[.slice (some ⟨vb, 0, none⟩) 1 1, .slice (some ⟨g, (i + 1) * 2, none⟩) lb cb]).run Try.prog w = .ok (.value (.bool false)) w := fun lb cb => by
    rw [run_callFunc_extern Try.func83 (by kernel_rfl) (by kernel_rfl) (by kernel_rfl) (e := Extern.SlicesOverlaps.overlaps #[28, 28] #[4]) (by kernel_rfl),
      Lib.run_overlaps_apart w 28 4 58 Try.underlying28 2 (fun w => by obtain ⟨i, hq, _, hi, _⟩ := info_parts Try.infoEntry; simp [sizeOf, typeInfo, hq, hi]) ⟨vb, 0, none⟩ ⟨g, (i + 1) * 2, none⟩ 1 1 lb cb hne 58 58 2 (c * 2) (by simp [World.shape?, hv]) (by simp [World.shape?, hh, h3]) (by omega) (by simp [World.frozen?, hv]) (by simp [World.frozen?, hv])]
    rfl
  have hE2 : cur.toList.take (n * 2) = ecs es := h4
  obtain ⟨sl1, sl2, sl3⟩ := shift_list (p := i * 2) (.string e.k) (.string e.v) hE2 (by rw [ecs_len, hn]) (by omega) (by simp [h3]; omega)
  have hdl : (List.drop (i * 2) (ecs es)).length = (n - i) * 2 := by rw [List.length_drop, ecs_len, ← hn]; omega
  obtain ⟨R1, hR1⟩ : ∃ R1, R1 = cur.toList.take (i * 2 + 2) ++ (ecs es).drop (i * 2) ++ cur.toList.drop (i * 2 + 2 + ((ecs es).drop (i * 2)).length) := ⟨_, rfl⟩
  rw [← hR1] at sl1 sl2 sl3
  obtain ⟨R2, hR2⟩ : ∃ R2, R2 = R1.take (i * 2) ++ [Value.string e.k, Value.string e.v] ++ R1.drop (i * 2 + 2) := ⟨_, rfl⟩
  rw [← hR2] at sl2 sl3
  obtain ⟨W1, hW1⟩ : ∃ W1, W1 = w.drew.setRow g R1.toArray := ⟨_, rfl⟩
  have hg1 : W1.heap[g]? = some (.cells R1.toArray 58 (0, 0)) := by rw [hW1]; exact setRow_heap w.drew g cur _ _ _ hh
  have hv1 : W1.heap[vb]? = some (.cells #[.string e.k, .string e.v] 58 (0, 0)) := by rw [hW1, setRow_other _ _ _ _ hne]; exact hv
  have hcp1 : ∀ dc sc, (Builtin.copy_ #[28, 28] 3 #[.slice (some ⟨g, (i + 1) * 2, none⟩) (n + 1 - (i + 1)) dc, .slice (some ⟨g, i * 2, none⟩) (n + 1 - i) sc]).run Try.prog w.drew = .ok (goInt (Nat.min (n + 1 - i) (n + 1 - (i + 1)))) W1 := fun dc sc => by
    rw [hW1, hR1, run_copy_row2 w.drew 3 g ((i + 1) * 2) (n + 1 - (i + 1)) dc ⟨g, i * 2, none⟩ (n + 1 - i) sc cur ((ecs es).drop (i * 2)) hh (by rw [hdl]; show _ = min _ _ * 2; omega) (fun j u hj => by
      rw [Addr.add_lit]
      rw [List.getElem?_drop, ← hE2, List.getElem?_take] at hj
      split at hj
      · show w.cell? _ = _
        simp only [World.cell?, hh]
        simpa using hj
      · cases hj) (by rw [hdl, h3]; omega) (fun u hu => ecs_one es u (List.mem_of_mem_drop hu)), show (i + 1) * 2 = i * 2 + 2 by omega]
  have hcp2 : ∀ dc, (Builtin.copy_ #[28, 28] 3 #[.slice (some ⟨g, i * 2, none⟩) (n + 1 - i) dc, .slice (some ⟨vb, 0, none⟩) 1 1]).run Try.prog W1 = .ok (goInt (Nat.min 1 (n + 1 - i))) (W1.setRow g R2.toArray) := fun dc => by
    rw [run_copy_row2 W1 3 g (i * 2) (n + 1 - i) dc ⟨vb, 0, none⟩ 1 1 R1.toArray [.string e.k, .string e.v] hg1 (by show 2 = min _ _ * 2; omega) (fun j u hj => by
      match j, hj with
      | 0, hj => simp at hj; subst hj; simp [Addr.add, World.cell?, hv1]
      | 1, hj => simp at hj; subst hj; simp [Addr.add, World.cell?, hv1]) (by simp [sl1, h3]; omega) (by intro u hu; simp at hu; rcases hu with rfl | rfl <;> rfl), hR2]
    rfl
  have hOW : EOwns (W1.setRow g R2.toArray) B (.slice (some ⟨g, 0, none⟩) (n + 1) c) (es.take i ++ e :: es.drop i) := by
    refine eowns_back hb (setRow_heap W1 g _ _ _ _ hg1) (by simp; omega) h1 h2 (by simp [sl2, h3]) ?_
    rw [ecs_append]
    simp only [ecs]
    rw [ecs_take, ecs_drop]
    rw [← sl3, show (n + 1) * 2 = n * 2 + 2 by omega]
  have hGR : w.grownBy (W1.setRow g R2.toArray) (some g) := by
    refine grown_trans ?_ (grown_setRow W1 g _)
    rw [hW1]
    have := grown_setRow w.drew g R1.toArray
    exact ⟨this.os, this.tape, this.output, this.size, this.block⟩
  have HOW := hide hOW
  have HGR := hide hGR
  clear hOW hGR sl1 sl2 sl3 hR1 hR2 hW1 hg1 hv1 hdl hE2 h4 hv hh h3 hel
  have hw1 : IntKind.i64.wrap ((i : Int) + 1) = (i : Int) + 1 := by rw [IntKind.wrap_i64]; omega
  have hb1 : (0 : Int) ≤ (i : Int) + 1 := by omega
  have hin : i ≤ n := by omega
  have htn : ((i : Int) + 1).toNat = i + 1 := by omega
  have hb2 : ¬ (c = i + 1) := by omega
  have hb3 : (i : Int) ≤ (n : Int) + 1 := by omega
  have hb4 : ¬ (c = i) := by omega
  clear hn
  go_enter Try.func82, Try.ntmps82
  go_wp2_with (simp only [hov])
  go_region_law (refine stepCopyE rfl (.tmp 73) (.tmp 76) 28 rfl (.slice (some ⟨g, (i + 1) * 2, none⟩) (n + 1 - (i + 1)) (c - (i + 1))) (.slice (some ⟨g, i * 2, none⟩) (n + 1 - i) (c - i)) (goInt (Nat.min (n + 1 - i) (n + 1 - (i + 1)))) W1 (by simp [Act.eval, Act.put]) (by simp [Act.eval, Act.put]) (hcp1 _ _) ?_)
  go_wp2_with (at_builtin; refine wpCopyE rfl (.tmp 80) (.tmp 81) 28 rfl (.slice (some ⟨g, i * 2, none⟩) (n + 1 - i) (c - i)) (.slice (some ⟨vb, 0, none⟩) 1 1) (goInt (Nat.min 1 (n + 1 - i))) (W1.setRow g R2.toArray) rfl rfl (hcp2 _) ?_)
  go_ret
  exact ⟨_, rfl, unhide HOW, by simp, unhide HGR⟩
theorem drew_grown {w w' : World} {r : Option Nat} (h : w.drew.grownBy w' r) : w.grownBy w' r := ⟨h.os, h.tape, h.output, h.size, h.block⟩
theorem grow_list {E Z1 Z2 : List Value} {p q : Nat} (x y : Value) (hq : E.length = q) (hp : p ≤ q) (hz : Z1.length = q + 2 - p) :
    (E.take p ++ Z1 ++ Z2).length = q + 2 + Z2.length ∧
    ((E.take p ++ Z1 ++ Z2).take p ++ [x, y] ++ (E.take p ++ Z1 ++ Z2).drop (p + 2)).length = q + 2 + Z2.length ∧
    (((E.take p ++ Z1 ++ Z2).take p ++ [x, y] ++ (E.take p ++ Z1 ++ Z2).drop (p + 2)).take (p + 2) ++ E.drop p ++ ((E.take p ++ Z1 ++ Z2).take p ++ [x, y] ++ (E.take p ++ Z1 ++ Z2).drop (p + 2)).drop (p + 2 + (E.drop p).length)).length = q + 2 + Z2.length ∧
    (((E.take p ++ Z1 ++ Z2).take p ++ [x, y] ++ (E.take p ++ Z1 ++ Z2).drop (p + 2)).take (p + 2) ++ E.drop p ++ ((E.take p ++ Z1 ++ Z2).take p ++ [x, y] ++ (E.take p ++ Z1 ++ Z2).drop (p + 2)).drop (p + 2 + (E.drop p).length)).take (q + 2) = E.take p ++ x :: y :: E.drop p := by
  have l4 : (E.take p).length = p := by rw [List.length_take]; omega
  have l2 : (E.drop p).length = q - p := by rw [List.length_drop, hq]
  have l0 : (E.take p ++ Z1 ++ Z2).length = q + 2 + Z2.length := by simp only [List.length_append, l4, hz]; omega
  have t1 : (E.take p ++ Z1 ++ Z2).take p = E.take p := by rw [List.append_assoc, List.take_append_of_le_length (by omega), List.take_of_length_le (by omega)]
  obtain ⟨D, hD⟩ : ∃ D, D = (E.take p ++ Z1 ++ Z2).drop (p + 2) := ⟨_, rfl⟩
  have lD : D.length = q + Z2.length - p := by rw [hD, List.length_drop, l0]; omega
  rw [t1, ← hD]
  have t3 : (E.take p ++ [x, y] ++ D).take (p + 2) = E.take p ++ [x, y] := by
    rw [List.take_append_of_le_length (by simp only [List.length_append, l4, List.length_cons, List.length_nil]; omega), List.take_of_length_le (by simp only [List.length_append, l4, List.length_cons, List.length_nil]; omega)]
  refine ⟨l0, ?_, ?_, ?_⟩
  · simp only [List.length_append, l4, lD, List.length_cons, List.length_nil]; omega
  · rw [t3]
    simp only [List.length_append, List.length_drop, l2, l4, lD, List.length_cons, List.length_nil]; omega
  · rw [t3, show E.take p ++ [x, y] ++ E.drop p = E.take p ++ x :: y :: E.drop p by simp]
    rw [List.take_append_of_le_length (by simp only [List.length_append, List.length_cons, l2, l4]; omega), List.take_of_length_le (by simp only [List.length_append, List.length_cons, l2, l4]; omega)]
set_option maxRecDepth 100000 in
set_option maxHeartbeats 4000000 in
theorem insert_grow (B g n i : Nat) (es : List EntD) (e : EntD) (vb : Nat) (cur : Array Value) (w : World) (hB : B ≤ w.heap.size) (hh : w.heap[g]? = some (.cells cur 58 (0, 0))) (hn : n = es.length) (h4 : cur.toList.take (n * 2) = ecs es)
    (hi : i < n) (hlen : n ≤ 1000) (hv : w.heap[vb]? = some (.cells #[.string e.k, .string e.v] 58 (0, 0))) :
    Calls Try.prog 82 #[.slice (some ⟨g, 0, none⟩) n n, .int .i64 (i : Int), .slice (some ⟨vb, 0, none⟩) 1 1] w fun x w' => ∃ v', x = .returned v' ∧ EOwns w' B v' (es.take i ++ e :: es.drop i) ∧ v' ≠ .slice none 0 0 ∧ w.grownBy w' (some g) := by
  obtain ⟨i0, hi0, hz0, hzs, hzb⟩ := info_parts Try.infoEntry
  have hel := ecs_len es
  have hgw : g < w.heap.size := (Array.getElem?_eq_some_iff.1 hh).1
  have hvw : vb < w.heap.size := (Array.getElem?_eq_some_iff.1 hv).1
  have hik : i + (n + 1 - i) = n + 1 := by omega
  have hold : (Builtin.firstCells i0.size i (.slice (some ⟨g, 0, none⟩) i n)).run Try.prog w.drew = .ok ((ecs es).take (i * 2)).toArray w.drew := by
    rw [hzs]
    exact run_firstCells_some w.drew 2 i ⟨g, 0, none⟩ i n ((ecs es).take (i * 2)) (by rw [List.length_take]; omega) (fun j v hj => by
      rw [Addr.add_lit]
      rw [List.getElem?_take, ← h4, List.getElem?_take] at hj
      split at hj
      · split at hj
        · show w.cell? _ = _
          simp only [World.cell?, hh]
          simpa using hj
        · cases hj
      · cases hj)
  obtain ⟨G, hG⟩ : ∃ G, G = grownCap w (n + 1) n 58 := ⟨_, rfl⟩
  have hGn : n + 1 ≤ G := by rw [hG]; exact grownCap_ge w _ _ _
  have hGm : G ≤ maxLen := by rw [hG]; exact grownCap_le_maxLen w (n + 1) n 58 (by unfold maxLen; omega)
  obtain ⟨Z1, hZ1⟩ : ∃ Z1, Z1 = (Builtin.zeroCells (Value.agg #[.string ByteArray.empty, .string ByteArray.empty]).cells (n + 1 - i)).toList := ⟨_, rfl⟩
  obtain ⟨Z2, hZ2⟩ : ∃ Z2, Z2 = (Builtin.zeroCells (Value.agg #[.string ByteArray.empty, .string ByteArray.empty]).cells (G - (n + 1))).toList := ⟨_, rfl⟩
  have lz1 : Z1.length = n * 2 + 2 - i * 2 := by rw [hZ1]; simp [Builtin.zeroCells, Value.cells]; omega
  have lz2 : Z2.length = (G - (n + 1)) * 2 := by rw [hZ2]; simp [Builtin.zeroCells, Value.cells]
  obtain ⟨g0, g1, g2, g3⟩ := grow_list (E := ecs es) (Z1 := Z1) (Z2 := Z2) (p := i * 2) (q := n * 2) (.string e.k) (.string e.v) (by rw [hel, hn]) (by omega) lz1
  obtain ⟨R0, hR0⟩ : ∃ R0, R0 = (ecs es).take (i * 2) ++ Z1 ++ Z2 := ⟨_, rfl⟩
  rw [← hR0] at g0 g1 g2 g3
  obtain ⟨R1, hR1⟩ : ∃ R1, R1 = R0.take (i * 2) ++ [Value.string e.k, Value.string e.v] ++ R0.drop (i * 2 + 2) := ⟨_, rfl⟩
  rw [← hR1] at g1 g2 g3
  obtain ⟨R2, hR2⟩ : ∃ R2, R2 = R1.take (i * 2 + 2) ++ (ecs es).drop (i * 2) ++ R1.drop (i * 2 + 2 + ((ecs es).drop (i * 2)).length) := ⟨_, rfl⟩
  rw [← hR2] at g2 g3
  obtain ⟨W1, hW1⟩ : ∃ W1, W1 = w.drew.alloc (.cells R0.toArray 58) := ⟨_, rfl⟩
  have hrz : ∀ ty, (Builtin.append_ #[28, 3] ty #[.slice (some ⟨g, 0, none⟩) i n, .int .i64 ((n : Int) + 1 - (i : Int))]).run Try.prog w = .ok (.slice (some ⟨w.heap.size, 0, none⟩) (n + 1) G) W1 := fun ty => by
    have h := Lib.run_append_grow_zeros w 28 3 ty 58 i0 _ .i64 .i64 Try.underlying28 Try.underlying3 hi0 hz0 (some ⟨g, 0, none⟩) i n ((ecs es).take (i * 2)) hold (n + 1 - i) (by omega) (by omega) (by omega) (by omega) (by rw [hzb]; omega) (by rw [hzb, hik]; exact growslice_fits (by omega) (by omega))
    rw [hik, ← hG] at h
    rw [show (n : Int) + 1 - (i : Int) = ((n + 1 - i : Nat) : Int) by omega, h, hW1, hR0, hZ1, hZ2]
    congr 4
    apply Array.ext'
    simp
  have hsw : W1.heap.size = w.heap.size + 1 := by rw [hW1]; simp
  have hg1 : W1.heap[w.heap.size]? = some (.cells R0.toArray 58 (0, 0)) := by rw [hW1]; exact heap_alloc_new w.drew _
  have hbl : Below w.heap.size w W1 := by
    have := ((Below.refl w.heap.size w).alloc (Nat.le_refl _) (.cells R0.toArray 58))
    rw [hW1]
    exact ⟨this.os, this.tape, this.output, this.size, this.block⟩
  have hv1 : W1.heap[vb]? = some (.cells #[.string e.k, .string e.v] 58 (0, 0)) := (hbl.block vb hvw).trans hv
  have hh1 : W1.heap[g]? = some (.cells cur 58 (0, 0)) := (hbl.block g hgw).trans hh
  obtain ⟨W2, hW2⟩ : ∃ W2, W2 = W1.setRow w.heap.size R1.toArray := ⟨_, rfl⟩
  have hg2 : W2.heap[w.heap.size]? = some (.cells R1.toArray 58 (0, 0)) := by rw [hW2]; exact setRow_heap W1 _ _ _ _ _ hg1
  have hh2 : W2.heap[g]? = some (.cells cur 58 (0, 0)) := by rw [hW2, setRow_other _ _ _ _ (by omega)]; exact hh1
  have hcp1 : ∀ dc, (Builtin.copy_ #[28, 28] 3 #[.slice (some ⟨w.heap.size, i * 2, none⟩) (n + 1 - i) dc, .slice (some ⟨vb, 0, none⟩) 1 1]).run Try.prog W1 = .ok (goInt (Nat.min 1 (n + 1 - i))) W2 := fun dc => by
    rw [run_copy_row2 W1 3 w.heap.size (i * 2) (n + 1 - i) dc ⟨vb, 0, none⟩ 1 1 R0.toArray [.string e.k, .string e.v] hg1 (by show 2 = min _ _ * 2; omega) (fun j u hj => by
      match j, hj with
      | 0, hj => simp at hj; subst hj; simp [Addr.add, World.cell?, hv1]
      | 1, hj => simp at hj; subst hj; simp [Addr.add, World.cell?, hv1]) (by simp [g0]; omega) (by intro u hu; simp at hu; rcases hu with rfl | rfl <;> rfl), hW2, hR1]
    rfl
  have hdl : (List.drop (i * 2) (ecs es)).length = (n - i) * 2 := by rw [List.length_drop, hel, ← hn]; omega
  obtain ⟨W3, hW3⟩ : ∃ W3, W3 = W2.drew.setRow w.heap.size R2.toArray := ⟨_, rfl⟩
  have hcp2 : ∀ dc sc, (Builtin.copy_ #[28, 28] 3 #[.slice (some ⟨w.heap.size, (i + 1) * 2, none⟩) (n + 1 - (i + 1)) dc, .slice (some ⟨g, i * 2, none⟩) (n - i) sc]).run Try.prog W2.drew = .ok (goInt (Nat.min (n - i) (n + 1 - (i + 1)))) W3 := fun dc sc => by
    rw [hW3, hR2, run_copy_row2 W2.drew 3 w.heap.size ((i + 1) * 2) (n + 1 - (i + 1)) dc ⟨g, i * 2, none⟩ (n - i) sc R1.toArray ((ecs es).drop (i * 2)) hg2 (by rw [hdl]; show _ = min _ _ * 2; omega) (fun j u hj => by
      rw [Addr.add_lit]
      rw [List.getElem?_drop, ← h4, List.getElem?_take] at hj
      split at hj
      · show W2.cell? _ = _
        simp only [World.cell?, hh2]
        simpa using hj
      · cases hj) (by rw [hdl]; simp [g1]; omega) (fun u hu => ecs_one es u (List.mem_of_mem_drop hu)), show (i + 1) * 2 = i * 2 + 2 by omega]
  have hOW : EOwns W3 B (.slice (some ⟨w.heap.size, 0, none⟩) (n + 1) G) (es.take i ++ e :: es.drop i) := by
    refine eowns_back hB (by rw [hW3]; exact setRow_heap W2.drew _ _ _ _ _ hg2) (by simp; omega) hGn hGm (by simp [g2, lz2]; omega) ?_
    rw [ecs_append]
    simp only [ecs]
    rw [ecs_take, ecs_drop]
    rw [← g3, show (n + 1) * 2 = n * 2 + 2 by omega]
  have hGR : w.grownBy W3 (some g) := by
    refine grown_new ?_
    have hb2 : Below w.heap.size w W2 := by
      refine ⟨by rw [hW2]; exact hbl.os, by rw [hW2]; exact hbl.tape, by rw [hW2]; exact hbl.output, by rw [hW2, setRow_size]; exact hbl.size, fun k hk => ?_⟩
      rw [hW2, setRow_other _ _ _ _ (by omega)]
      exact hbl.block k hk
    refine ⟨by rw [hW3]; exact hb2.os, by rw [hW3]; exact hb2.tape, by rw [hW3]; exact hb2.output, by rw [hW3, setRow_size]; exact hb2.size, fun k hk => ?_⟩
    rw [hW3, setRow_other _ _ _ _ (by omega)]
    exact hb2.block k hk
  have HOW := hide hOW
  have HGR := hide hGR
  have hG63 : G ≤ 9223372036854775807 := by unfold maxLen at hGm; omega
  clear hOW hGR g0 g1 g2 g3 hR0 hR1 hR2 hW1 hW2 hW3 hg1 hg2 hv1 hh1 hh2 hdl h4 hv hh hel hold hG hZ1 hZ2 lz1 lz2 hbl hsw hik hz0 hzs hzb hi0
  have hw1 : IntKind.i64.wrap ((i : Int) + 1) = (i : Int) + 1 := by rw [IntKind.wrap_i64]; omega
  have hb1 : (0 : Int) ≤ (i : Int) + 1 := by omega
  have hz1 : ¬ ((i : Int) = (n : Int)) := by omega
  have hin : i ≤ n := by omega
  have htn : ((i : Int) + 1).toNat = i + 1 := by omega
  have hb2 : ¬ (G = i + 1) := by omega
  have hb3 : (i : Int) ≤ (n : Int) := by omega
  have hb4 : ¬ (G = i) := by omega
  have hb5 : ¬ (n = i) := by omega
  clear hn
  go_enter Try.func82, Try.ntmps82
  go_wp2_with (first
    | (at_builtin; refine Lib.wpList_append_run _ rfl _ _ _ _ rfl (.slice (some ⟨g, 0, none⟩) i n) (.int .i64 ((n : Int) + 1 - (i : Int))) rfl rfl (.slice (some ⟨w.heap.size, 0, none⟩) (n + 1) G) W1 (hrz _) ?_)
    | (at_builtin; refine wpCopyE rfl (.tmp 43) (.tmp 44) 28 rfl (.slice (some ⟨w.heap.size, i * 2, none⟩) (n + 1 - i) (G - i)) (.slice (some ⟨vb, 0, none⟩) 1 1) (goInt (Nat.min 1 (n + 1 - i))) W2 rfl rfl (hcp1 _) ?_))
  go_region_law (refine stepCopyE rfl (.tmp 50) (.tmp 53) 28 rfl (.slice (some ⟨w.heap.size, (i + 1) * 2, none⟩) (n + 1 - (i + 1)) (G - (i + 1))) (.slice (some ⟨g, i * 2, none⟩) (n - i) (n - i)) (goInt (Nat.min (n - i) (n + 1 - (i + 1)))) W3 (by simp [Act.eval, Act.put]) (by simp [Act.eval, Act.put]) (hcp2 _ _) ?_)
  go_wp2_with fail
  go_ret
  exact ⟨_, rfl, unhide HOW, by simp, unhide HGR⟩
theorem insert_any (B : Nat) (a : Option Addr) (n c i : Nat) (es : List EntD) (e : EntD) (vb : Nat) (w : World) (hown : EOwns w B (.slice a n c) es) (hn : n = es.length) (hi : i ≤ n) (hlen : n ≤ 1000) (hB : B ≤ w.heap.size)
    (hv : w.heap[vb]? = some (.cells #[.string e.k, .string e.v] 58 (0, 0))) (hne : ∀ x, a = some x → vb ≠ x.block) :
    Calls Try.prog 82 #[.slice a n c, .int .i64 (i : Int), .slice (some ⟨vb, 0, none⟩) 1 1] w fun x w' => ∃ v', x = .returned v' ∧ EOwns w' B v' (es.take i ++ e :: es.drop i) ∧ v' ≠ .slice none 0 0 ∧ w.grownBy w' (Value.slice a n c).ownBlock := by
  rcases Nat.lt_or_eq_of_le hi with hlt | rfl
  · obtain ⟨g, cur, rfl, _, hb, hh, h1, h2, h3, h4⟩ := eowns_form hown (by omega)
    by_cases hr : n + 1 ≤ c
    · exact insert_room B g c n i es e vb cur w hb hh hn hr h2 h3 h4 hlt hlen hv (hne _ rfl)
    · obtain rfl : c = n := by omega
      exact insert_grow B g c i es e vb cur w hB hh hn h4 hlt hlen hv
  · subst hn
    have := insert_end B a c es e vb w hown hlen hB hv
    rw [List.take_length, List.drop_length]
    exact this
end Go.Proofs.Ytkggpapmhopaeaa
