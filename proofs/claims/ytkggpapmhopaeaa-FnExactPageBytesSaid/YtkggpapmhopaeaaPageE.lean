/-
  slices.Delete of one entry, over entries of the call's own.
-/
import Derived.Test.YtkggpapmhopaeaaPageD
namespace Go.Proofs.Ytkggpapmhopaeaa
open Go.RowKit

theorem run_clear2 (w : World) (ty : TypeId) (g o c : Nat) (hc : ∀ j, j < 2 → (w.cell? ⟨g, o + j, none⟩).isSome = true) (hf : ∀ j, j < 2 → w.frozen? ⟨g, o + j, none⟩ = false) :
    (Builtin.clear_ #[28] ty #[.slice (some ⟨g, o, none⟩) 1 c]).run Try.prog w = .ok (.tuple #[]) (w.setCells g o [.string ByteArray.empty, .string ByteArray.empty]) := by
  obtain ⟨i, hq, hz, _, _⟩ := info_parts Try.infoEntry
  have hv : ∀ w, (zeroValue 58).run Try.prog w = .ok (.agg #[.string ByteArray.empty, .string ByteArray.empty]) w := fun w => by simp [zeroValue, typeInfo, hq, hz]
  have hzc : (Builtin.zeroCells (Value.agg #[.string ByteArray.empty, .string ByteArray.empty]).cells 1).toList = [.string ByteArray.empty, .string ByteArray.empty] := by kernel_rfl
  have hst := run_storeCells_cells (P := Try.prog) g o [.string ByteArray.empty, .string ByteArray.empty] 0 w (by simpa using hc) (by simpa using hf) (by intro v hv'; simp at hv'; subst hv'; rfl)
  simp only [Nat.add_zero] at hst
  simp [Builtin.clear_, run_underlying Try.underlying28, hv, hzc, hst]
theorem del_list {cur E : List Value} {p q : Nat} (hE : cur.take (q + 2) = E) (hq : E.length = q + 2) (hp : p ≤ q) (hl : q + 2 ≤ cur.length) (x y : Value) :
    (cur.take p ++ E.drop (p + 2) ++ cur.drop (p + (E.drop (p + 2)).length)).length = cur.length ∧
    ((cur.take p ++ E.drop (p + 2) ++ cur.drop (p + (E.drop (p + 2)).length)).take q ++ [x, y] ++ (cur.take p ++ E.drop (p + 2) ++ cur.drop (p + (E.drop (p + 2)).length)).drop (q + 2)).length = cur.length ∧
    ((cur.take p ++ E.drop (p + 2) ++ cur.drop (p + (E.drop (p + 2)).length)).take q ++ [x, y] ++ (cur.take p ++ E.drop (p + 2) ++ cur.drop (p + (E.drop (p + 2)).length)).drop (q + 2)).take q = E.take p ++ E.drop (p + 2) := by
  have l1 : (cur.take p).length = p := by rw [List.length_take]; omega
  have l2 : (E.drop (p + 2)).length = q - p := by rw [List.length_drop, hq]; omega
  have e1 : cur.take p = E.take p := by rw [← hE, List.take_take]; congr 1; omega
  obtain ⟨R, hR⟩ : ∃ R, R = cur.take p ++ E.drop (p + 2) ++ cur.drop (p + (E.drop (p + 2)).length) := ⟨_, rfl⟩
  have lR : R.length = cur.length := by rw [hR]; simp only [List.length_append, List.length_drop, l1, l2]; omega
  have tR : R.take q = E.take p ++ E.drop (p + 2) := by
    rw [hR, List.take_append_of_le_length (by simp only [List.length_append, l1, l2]; omega), List.take_of_length_le (by simp only [List.length_append, l1, l2]; omega), e1]
  rw [← hR]
  have lq : (R.take q).length = q := by rw [List.length_take, lR]; omega
  refine ⟨lR, ?_, ?_⟩
  · simp only [List.length_append, lq, List.length_drop, lR, List.length_cons, List.length_nil]; omega
  · rw [List.append_assoc, List.take_append_of_le_length (by omega), List.take_of_length_le (by omega), tR]
set_option maxRecDepth 100000 in
set_option maxHeartbeats 4000000 in
theorem delete_any (B g c q i : Nat) (es : List EntD) (cur : Array Value) (w : World) (hb : B ≤ g) (hh : w.heap[g]? = some (.cells cur 58 (0, 0))) (hn : q + 1 = es.length) (h1 : q + 1 ≤ c) (h2 : c ≤ maxLen) (h3 : cur.size = c * 2) (h4 : cur.toList.take ((q + 1) * 2) = ecs es) (hi : i ≤ q) (hlen : q ≤ 1000) :
    Calls Try.prog 76 #[.slice (some ⟨g, 0, none⟩) (q + 1) c, .int .i64 (i : Int), .int .i64 ((i : Int) + 1)] w fun x w' => x = .returned (.slice (some ⟨g, 0, none⟩) q c) ∧ EOwns w' B (.slice (some ⟨g, 0, none⟩) q c) (es.take i ++ es.drop (i + 1)) ∧ w.grownBy w' (some g) := by
  obtain ⟨i0, hi0, hz0, hzs, hzb⟩ := info_parts Try.infoEntry
  have hel := ecs_len es
  have hE : cur.toList.take (q * 2 + 2) = ecs es := by rw [← h4]; congr 1; omega
  obtain ⟨s1, s2, s3⟩ := del_list (p := i * 2) (q := q * 2) hE (by omega) (by omega) (by simp [h3]; omega) (.string ByteArray.empty) (.string ByteArray.empty)
  obtain ⟨news, hnews⟩ : ∃ news, news = (ecs es).drop (i * 2 + 2) := ⟨_, rfl⟩
  rw [← hnews] at s1 s2 s3
  have hnl : news.length = (q - i) * 2 := by rw [hnews, List.length_drop]; omega
  have hn1 : ∀ u ∈ news, u.oneCell' = true := fun u hu => by rw [hnews] at hu; exact ecs_one es u (List.mem_of_mem_drop hu)
  obtain ⟨R1, hR1⟩ : ∃ R1, R1 = cur.toList.take (i * 2) ++ news ++ cur.toList.drop (i * 2 + news.length) := ⟨_, rfl⟩
  rw [← hR1] at s1 s2 s3
  obtain ⟨R2, hR2⟩ : ∃ R2, R2 = R1.take (q * 2) ++ [Value.string ByteArray.empty, .string ByteArray.empty] ++ R1.drop (q * 2 + 2) := ⟨_, rfl⟩
  rw [← hR2] at s2 s3
  obtain ⟨A, hA, hsrc⟩ : ∃ A : Addr, (if c = i + 1 then some (⟨g, 0, none⟩ : Addr) else some ⟨g, (i + 1) * 2, none⟩) = some A ∧ Hid (∀ t u, news[t]? = some u → w.drew.cell? (A.add t) = some u) := by
    by_cases h : c = i + 1
    · refine ⟨⟨g, 0, none⟩, by simp [h], fun t u hu => ?_⟩
      have h0 : news.length = 0 := by rw [hnl]; omega
      rw [List.length_eq_zero_iff.1 h0] at hu
      simp at hu
    · refine ⟨⟨g, (i + 1) * 2, none⟩, by simp [h], fun t u hu => ?_⟩
      rw [Addr.add_lit]
      rw [hnews, List.getElem?_drop, ← hE, List.getElem?_take] at hu
      split at hu
      · show w.cell? _ = _
        simp only [World.cell?, hh]
        rw [show (i + 1) * 2 + t = i * 2 + 2 + t by omega]
        simpa using hu
      · cases hu
  have s1' : Hid (∀ t, t < news.length → (w.drew.cell? ⟨g, 0 + i * 2 + t, none⟩).isSome = true ∧ w.drew.frozen? ⟨g, 0 + i * 2 + t, none⟩ = false) := fun t ht => by
    refine ⟨?_, ?_⟩
    · show (w.cell? _).isSome = true
      simp [World.cell?, hh]
      omega
    · show w.frozen? _ = false
      simp [World.frozen?, hh]
  obtain ⟨W1, hW1⟩ : ∃ W1, W1 = w.drew.setCells g (0 + i * 2) news := ⟨_, rfl⟩
  have hW1r : W1 = w.drew.setRow g R1.toArray := by
    rw [hW1, Nat.zero_add, setCells_row (w := w.drew) (t := 58) (cur := cur) hh (by omega) hn1, ← hR1]
  have hg1 : W1.heap[g]? = some (.cells R1.toArray 58 (0, 0)) := by rw [hW1r]; exact setRow_heap w.drew g cur _ _ _ hh
  have hcl : ∀ ty, (Builtin.clear_ #[28] ty #[.slice (some ⟨g, q * 2, none⟩) 1 (c - q)]).run Try.prog W1 = .ok (.tuple #[]) (W1.setRow g R2.toArray) := fun ty => by
    rw [run_clear2 W1 ty g (q * 2) (c - q) (fun j hj => by simp [World.cell?, hg1, s1, h3]; omega) (fun j hj => by simp [World.frozen?, hg1]),
      setCells_row (t := 58) hg1 (by simp [s1, h3]; omega) (by intro u hu; simp at hu; subst hu; rfl), hR2]
    rfl
  have hOW : EOwns (W1.setRow g R2.toArray) B (.slice (some ⟨g, 0, none⟩) q c) (es.take i ++ es.drop (i + 1)) := by
    refine eowns_back hb (setRow_heap W1 g _ _ _ _ hg1) (by simp; omega) (by omega) h2 (by simp [s2, h3]) ?_
    rw [ecs_append, ecs_take, ecs_drop, show (i + 1) * 2 = i * 2 + 2 by omega, ← hnews, ← s3]
  have hGR : w.grownBy (W1.setRow g R2.toArray) (some g) := by
    refine grown_trans ?_ (grown_setRow W1 g _)
    rw [hW1r]
    exact drew_grown (grown_setRow w.drew g R1.toArray)
  have HOW := hide hOW
  have HGR := hide hGR
  have HW1 := hide hW1
  clear hOW hGR hW1 hW1r hg1 hR1 hR2 s1 s2 s3 hnews hE h4 h3 hh hel hz0 hzb
  have HN1 := hide hn1
  have HNL := hide hnl
  clear hn1 hnl hn
  have hc63 : c ≤ 9223372036854775807 := by unfold maxLen at h2; omega
  have hiq : i + (q - i) = q := by omega
  have hiq' : (i : Int) + ((q - i : Nat) : Int) = (q : Int) := by omega
  have hic : i ≤ c := by omega
  have hbj : (0 : Int) ≤ (i : Int) + 1 := by omega
  have hbk : (i : Int) + 1 ≤ (q : Int) + 1 := by omega
  have hbl : (i : Int) ≤ (i : Int) + 1 := by omega
  have hjc : i + 1 ≤ c := by omega
  have hqc : ¬ (c = q) := by omega
  have hne : ¬ ((i : Int) = (i : Int) + 1) := by omega
  have htn : ((i : Int) + 1).toNat = i + 1 := by omega
  go_enter Try.func76, Try.ntmps76
  go_wp2_with fail
  go_region_law (refine step_append_room rfl (.tmp 22) (.tmp 25) 28 rfl 58 i0 2 Try.underlying28 hi0 hzs g 0 i c (by simp [Act.eval, Act.put]) A (q - i) (c - (i + 1)) news (by simp [Act.eval, Act.put]) (unhide HNL) (unhide hsrc) (unhide HN1) (by omega) (unhide s1') ?_; rw [← unhide HW1])
  clear hsrc s1' HN1 HNL HW1
  go_wp2_with fail
  go_ret
  exact ⟨rfl, unhide HOW, unhide HGR⟩
end Go.Proofs.Ytkggpapmhopaeaa
