/-
  Noughts appended to a row of bytes of the call's own: append(out, make([]byte, k)...).
-/
import Derived.Test.YtdiakahaghggiaaBuf
import Derived.Lib.AppendZerosOnto
namespace Go.Proofs.Ytdiakahaghggiaa
open Go.RowKit

theorem zero_cells (k : Nat) : (Builtin.zeroCells #[Value.int .u8 0] k).toList = (List.replicate k (0 : Int)).map (Value.int .u8) := by
  apply List.ext_getElem?
  intro j
  by_cases h : j < k
  · simp [Builtin.zeroCells, h, Nat.mod_one]
  · rw [List.getElem?_eq_none (by simp [Builtin.zeroCells]; omega), List.getElem?_eq_none (by simp; omega)]
theorem run_append_zeros (w : World) (base g cap k : Nat) (xs : List Int) (ty : TypeId) (h : Owns w base (.slice (some ⟨g, 0, none⟩) xs.length cap) xs) (hk : 0 < k) (hkb : k ≤ 100000) (hx : xs.length ≤ 100000000) (hbase : base ≤ w.heap.size) :
    ∃ g' cap' w', (Builtin.append_ #[22, 3] ty #[.slice (some ⟨g, 0, none⟩) xs.length cap, .int .i64 (k : Int)]).run Try.prog w = .ok (.slice (some ⟨g', 0, none⟩) (xs.length + k) cap') w' ∧
      Owns w' base (.slice (some ⟨g', 0, none⟩) (xs.length + k) cap') (xs ++ List.replicate k 0) ∧ w.grownBy w' (some g) := by
  obtain ⟨i0, hi, hz0, hz1, hz2⟩ := info_parts Try.infoU8
  have ht := Try.underlying22
  have htn := Try.underlying3
  have hown := h
  have hlen : (xs ++ List.replicate k (0 : Int)).length = xs.length + k := by simp
  rcases h.2 with ⟨e, _⟩ | ⟨g', cap', cur, e, hb, hh, h1, h2, hs, htk⟩
  · cases e
  injection e with e1 _ e3
  injection e1 with e1
  injection e1 with e1
  subst e1 e3
  have hcur : cur.toList.take xs.length = xs.map (Value.int .u8) := by simpa using htk
  have hw : IntKind.i64.wrap (k : Int) = k := by rw [IntKind.wrap_i64]; omega
  have hneg : ¬ ((k : Int) < 0) := by omega
  have h48i : ¬ (281474976710656 < (k : Int)) := by omega
  have hk0 : k ≠ 0 := by omega
  by_cases hroom : xs.length + k ≤ cap
  · have hst := run_storeCells_at Try.prog g xs.length 5 ((List.replicate k (0 : Int)).map (Value.int .u8)) 0 cur w hh (by simp; omega) (all_u8 _)
    simp only [Nat.add_zero] at hst
    have hzc := zero_cells k
    have hr : (Builtin.append_ #[22, 3] ty #[.slice (some ⟨g, 0, none⟩) xs.length cap, .int .i64 (k : Int)]).run Try.prog w = .ok (.slice (some ⟨g, 0, none⟩) (xs.length + k) cap) (w.setRow g (cur.toList.take xs.length ++ (List.replicate k (0 : Int)).map (Value.int .u8) ++ cur.toList.drop (xs.length + ((List.replicate k (0 : Int)).map (Value.int .u8)).length)).toArray) := by
      rw [← hzc] at hst ⊢
      simp [Builtin.append_, run_underlying ht, run_underlying htn, sizeOf, typeInfo, zeroValue, hi, hz0, hz1, hz2, asInt, asIntOf, hw, hroom, hneg, hk0, h48i, Addr.add_lit, Value.cells, hst]
    refine ⟨g, cap, _, hr, ⟨by simp, .inr ⟨g, cap, _, by rw [hlen], hb, setRow_heap w g cur _ _ _ hh, by omega, h2, ?_, ?_⟩⟩, ⟨rfl, rfl, rfl, by simp, fun j _ hj => setRow_other w g j _ (fun e => hj (by rw [e]))⟩⟩
    · simp; omega
    · rw [hcur, hlen, List.map_append]
      simp only [Nat.mul_one]
      exact List.take_left' (by simp)
  · have hold := run_firstCells_some (P := Try.prog) w.drew 1 xs.length ⟨g, 0, none⟩ xs.length cap (xs.map (Value.int .u8)) (by simp) (fun j u hj => by
      have hj' : j < xs.length := by simpa using (List.getElem?_eq_some_iff.1 hj).1
      have := hown.cellAt j (by simpa using hj')
      rw [Addr.add_mid, Nat.zero_add]
      exact this.trans (by rw [hj]))
    have hg := Lib.run_append_grow_zeros (P := Try.prog) w 22 3 ty 5 i0 (.int .u8 0) .i64 .i64 ht htn hi hz0 (some ⟨g, 0, none⟩) xs.length cap (xs.map (Value.int .u8)) (by rw [hz1]; exact hold) k hk (by omega) (by omega) (by omega) (by rw [hz2]; omega) (by rw [hz2]; have := growslice_fits (old := cap) (need := xs.length + k) (bytes := 1) (by omega) (by omega); omega)
    have hge := grownCap_ge w (xs.length + k) cap 5
    have hcm : grownCap w (xs.length + k) cap 5 ≤ maxLen := grownCap_le_maxLen w (xs.length + k) cap 5 (by unfold maxLen; omega)
    refine ⟨w.heap.size, _, _, hg, ⟨by simp, .inr ⟨w.heap.size, _, _, by rw [hlen], hbase, heap_alloc_new w.drew _, by omega, hcm, ?_, ?_⟩⟩, ⟨rfl, rfl, rfl, by simp, fun j hj _ => Below.heap_alloc w.drew _ j hj⟩⟩
    · simp [size_zeroCells, Value.cells]; omega
    · simp only [Array.toList_append, List.append_assoc, Value.cells, zero_cells, hlen, Nat.mul_one]
      rw [← List.append_assoc, ← List.map_append]
      exact List.take_left' (by simp)
theorem wpList_append_zeros (w : World) {ops : Array Oper} {rest : List Oper} {o : Oper} {a : Act} {Q : Exit → Act → World → Prop} (hg : o.guard = none) (s x : Operand) (hop : o.op = Op.call { callee := Callee.builtin Builtin.append, args := #[s, x], argTypes := #[22, 3] })
    (base g cap k : Nat) (xs : List Int) (hs : a.eval s = .slice (some ⟨g, 0, none⟩) xs.length cap) (hx : a.eval x = .int .i64 (k : Int)) (h : Owns w base (.slice (some ⟨g, 0, none⟩) xs.length cap) xs) (hk : 0 < k) (hkb : k ≤ 100000) (hxb : xs.length ≤ 100000000) (hbase : base ≤ w.heap.size)
    (hK : ∀ g' cap' w', Owns w' base (.slice (some ⟨g', 0, none⟩) (xs.length + k) cap') (xs ++ List.replicate k 0) → w.grownBy w' (some g) → wpList Try.prog ops Q rest (a.put o.dst (.slice (some ⟨g', 0, none⟩) (xs.length + k) cap')) w') : wpList Try.prog ops Q (o :: rest) a w := by
  refine wpList_plain hg fun K' hK' => ?_
  obtain ⟨g', cap', w', hrun, r1, r2⟩ := run_append_zeros w base g cap k xs o.type h hk hkb hxb hbase
  unfold Oper.wp execOp
  simp only [hop, resolve, invoke, builtin, Sem.run_bind, Sem.run_pure, Result.andThen_ok, List.map_toArray, List.map_cons, List.map_nil, hs, hx, hrun]
  exact hK' _ _ (hK g' cap' w' r1 r2)
end Go.Proofs.Ytdiakahaghggiaa
