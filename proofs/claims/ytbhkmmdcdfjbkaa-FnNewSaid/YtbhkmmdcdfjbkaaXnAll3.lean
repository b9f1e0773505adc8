/-
  JxI, TqD, JxD, TqE, TqF, GdP, TqG, TqH, TrA, TrB, TrC, TqI, TgS in one.
-/
import Derived.Test.YtbhkmmdcdfjbkaaPageD
import Derived.Test.YtbhkmmdcdfjbkaaJxG
import Derived.Test.YtbhkmmdcdfjbkaaXnAll2
import Derived.Test.YtbhkmmdcdfjbkaaXnAll1
import Derived.Test.YtbhkmmdcdfjbkaaGdA
import Derived.Test.YtbhkmmdcdfjbkaaAppL
import Derived.Deep.RegionWith
namespace Go.Proofs.Ytbhkmmdcdfjbkaa
open Go.RowKit

theorem infoJ24 : (Try.prog.info? 53).map (fun i => (i.zero, i.size, i.bytes)) = some (some (.agg #[.string ByteArray.empty, .int .i64 0]), 2, 24) := by kernel_rfl
theorem jcs_take : ∀ (es : List RefD) (n : Nat), jcs (es.take n) = (jcs es).take (n * 2)
  | [], n => by simp [jcs]
  | e :: r, 0 => by simp [jcs]
  | e :: r, n + 1 => by
    rw [List.take_succ_cons, show (n + 1) * 2 = n * 2 + 1 + 1 by omega]
    simp only [jcs, List.take_succ_cons, jcs_take r n]
theorem jcs_drop : ∀ (es : List RefD) (n : Nat), jcs (es.drop n) = (jcs es).drop (n * 2)
  | [], n => by simp [jcs]
  | e :: r, 0 => by simp [jcs]
  | e :: r, n + 1 => by
    rw [List.drop_succ_cons, show (n + 1) * 2 = n * 2 + 1 + 1 by omega]
    simp only [jcs, List.drop_succ_cons, jcs_drop r n]
theorem jrun_copy_row2 (w : World) (ty : TypeId) (g o dLen dCap : Nat) (a : Addr) (sLen sCap : Nat) (cur : Array Value) (cs : List Value)
    (hg : w.heap[g]? = some (.cells cur 53 (0, 0))) (hn : cs.length = Nat.min sLen dLen * 2)
    (hsrc : ∀ j v, cs[j]? = some v → w.cell? (a.add j) = some v) (hfit : o + cs.length ≤ cur.size) (h1 : ∀ v ∈ cs, v.oneCell' = true) :
    (Builtin.copy_ #[28, 28] ty #[.slice (some ⟨g, o, none⟩) dLen dCap, .slice (some a) sLen sCap]).run Try.prog w =
      .ok (goInt (Nat.min sLen dLen)) (w.setRow g (cur.toList.take o ++ cs ++ cur.toList.drop (o + cs.length)).toArray) := by
  have hl := run_loadCells_list (P := Try.prog) w a cs hsrc
  have hst := run_storeCells_at Try.prog g o 53 cs 0 cur w hg (by simpa using hfit) h1
  obtain ⟨i, hq, _, hi, _⟩ := info_parts infoJ24
  simp [Builtin.copy_, run_underlying Try.underlying28, Builtin.lenOf, Builtin.firstCells, sizeOf, typeInfo, hq, hi, ← hn, hl, hst]
set_option maxRecDepth 100000 in
set_option maxHeartbeats 4000000 in
theorem jinsert_end (B : Nat) (a : Option Addr) (c : Nat) (es : List RefD) (e : RefD) (vb : Nat) (w : World) (hown : JOwns w B (.slice a es.length c) es) (hlen : es.length ≤ 1000) (hB : B ≤ w.heap.size)
    (hv : w.heap[vb]? = some (.cells #[.string e.low, .int .i64 e.id] 53 (0, 0))) :
    Calls Try.prog 66 #[.slice a es.length c, .int .i64 (es.length : Int), .slice (some ⟨vb, 0, none⟩) 1 1] w fun x w' => ∃ v', x = .returned v' ∧ JOwns w' B v' (es ++ [e]) ∧ v' ≠ .slice none 0 0 ∧ w.grownBy w' (Value.slice a es.length c).ownBlock := by
  obtain ⟨i0, hi0, hz0, hz1, hz2⟩ := info_parts infoJ24
  have hvs : ∀ j u, [Value.string e.low, Value.int .i64 e.id][j]? = some u → w.cell? ((⟨vb, 0, none⟩ : Addr).add j) = some u := fun j u hj => by
    match j, hj with
    | 0, hj => simp at hj; subst hj; simp [Addr.add, World.cell?, hv]
    | 1, hj => simp at hj; subst hj; simp [Addr.add, World.cell?, hv]
  have hcap : es.length ≤ c := by
    rcases hown.2 with ⟨e, hn⟩ | ⟨g, cap, cur, e, _, _, h1, _⟩
    · omega
    · injection e with _ _ e3; omega
  have HO := hide hown
  have HV := hide hvs
  clear hown hvs hv
  go_enter Try.func66, Try.ntmps66
  go_wp2_with (at_builtin; refine wpList_append_own _ rfl _ _ 28 rfl B 53 i0 (.agg #[.string ByteArray.empty, .int .i64 0]) 2 24 Try.underlying28 hi0 hz0 hz1 hz2 rfl (by decide) _ _ _ rfl (unhide HO) ⟨vb, 0, none⟩ 1 1 [.string e.low, .int .i64 e.id] rfl rfl (unhide HV) (by intro u hu; simp at hu; rcases hu with rfl | rfl <;> rfl) (by unfold maxLen; omega) (by omega) hB ?_)
  all_goals
    intro v' w' h1 h2 h3
    have h1' : JOwns w' B v' (es ++ [e]) := by
      have := h1
      rw [← show jcs [e] = [.string e.low, .int .i64 e.id] from rfl, ← jcs_append] at this
      unfold JOwns
      rw [List.length_append]
      exact this
    have H1 := hide h1'
    have H2 := hide h2
    have H3 := hide h3
    clear h1 h2 h3 h1'
    go_wp2_with fail
    go_ret
    exact ⟨v', rfl, unhide H1, unhide H3, by have := unhide H2; cases a <;> exact this⟩
/-- A row of entries of the call's own, with an address. -/
theorem jeowns_form {w : World} {B n c : Nat} {a : Option Addr} {es : List RefD} (h : JOwns w B (.slice a n c) es) (h0 : 0 < es.length) : ∃ g cur, a = some ⟨g, 0, none⟩ ∧ n = es.length ∧ B ≤ g ∧ w.heap[g]? = some (.cells cur 53 (0, 0)) ∧ n ≤ c ∧ c ≤ maxLen ∧ cur.size = c * 2 ∧ cur.toList.take (n * 2) = jcs es := by
  rcases h.2 with ⟨e, hn⟩ | ⟨g, cap, cur, e, hb, hh, h1, h2, h3, h4⟩
  · omega
  · injection e with e1 e2 e3
    subst e1 e2 e3
    exact ⟨g, cur, rfl, rfl, hb, hh, h1, h2, h3, h4⟩
theorem jeowns_back {w : World} {B g c n : Nat} {es : List RefD} {cur : Array Value} (hb : B ≤ g) (hh : w.heap[g]? = some (.cells cur 53 (0, 0))) (hn : n = es.length) (h1 : n ≤ c) (h2 : c ≤ maxLen) (h3 : cur.size = c * 2) (h4 : cur.toList.take (n * 2) = jcs es) : JOwns w B (.slice (some ⟨g, 0, none⟩) n c) es := by
  subst hn
  exact ⟨jcs_len es, .inr ⟨g, c, cur, rfl, hb, hh, h1, h2, h3, h4⟩⟩
set_option maxRecDepth 100000 in
set_option maxHeartbeats 4000000 in
theorem jinsert_room (B g c n i : Nat) (es : List RefD) (e : RefD) (vb : Nat) (cur : Array Value) (w : World) (hb : B ≤ g) (hh : w.heap[g]? = some (.cells cur 53 (0, 0))) (hn : n = es.length) (h1 : n + 1 ≤ c) (h2 : c ≤ maxLen) (h3 : cur.size = c * 2) (h4 : cur.toList.take (n * 2) = jcs es)
    (hi : i < n) (hlen : n ≤ 1000) (hv : w.heap[vb]? = some (.cells #[.string e.low, .int .i64 e.id] 53 (0, 0))) (hne : vb ≠ g) :
    Calls Try.prog 66 #[.slice (some ⟨g, 0, none⟩) n c, .int .i64 (i : Int), .slice (some ⟨vb, 0, none⟩) 1 1] w fun x w' => ∃ v', x = .returned v' ∧ JOwns w' B v' (es.take i ++ e :: es.drop i) ∧ v' ≠ .slice none 0 0 ∧ w.grownBy w' (some g) := by
  have hel := jcs_len es
  have hc63 : c ≤ 9223372036854775807 := by unfold maxLen at h2; omega
  have hz1 : ¬ ((i : Int) = (n : Int)) := by omega
  have hov : ∀ lb cb, (callFunc 82 #[.slice (some ⟨vb, 0, none⟩) 1 1, .slice (some ⟨g, (i + 1) * 2, none⟩) lb cb]).run Try.prog w = .ok (.value (.bool false)) w := fun lb cb => by
    rw [run_callFunc_extern Try.func82 (by kernel_rfl) (by kernel_rfl) (by kernel_rfl) (e := Extern.SlicesOverlaps.overlaps #[28, 28] #[4]) (by kernel_rfl),
      Lib.run_overlaps_apart w 28 4 53 Try.underlying28 2 (fun w => by obtain ⟨i, hq, _, hi, _⟩ := info_parts infoJ24; simp [sizeOf, typeInfo, hq, hi]) ⟨vb, 0, none⟩ ⟨g, (i + 1) * 2, none⟩ 1 1 lb cb hne 53 53 2 (c * 2) (by simp [World.shape?, hv]) (by simp [World.shape?, hh, h3]) (by omega) (by simp [World.frozen?, hv]) (by simp [World.frozen?, hv])]
    rfl
  have hE2 : cur.toList.take (n * 2) = jcs es := h4
  obtain ⟨sl1, sl2, sl3⟩ := shift_list (p := i * 2) (.string e.low) (.int .i64 e.id) hE2 (by rw [jcs_len, hn]) (by omega) (by simp [h3]; omega)
  have hdl : (List.drop (i * 2) (jcs es)).length = (n - i) * 2 := by rw [List.length_drop, jcs_len, ← hn]; omega
  obtain ⟨R1, hR1⟩ : ∃ R1, R1 = cur.toList.take (i * 2 + 2) ++ (jcs es).drop (i * 2) ++ cur.toList.drop (i * 2 + 2 + ((jcs es).drop (i * 2)).length) := ⟨_, rfl⟩
  rw [← hR1] at sl1 sl2 sl3
  obtain ⟨R2, hR2⟩ : ∃ R2, R2 = R1.take (i * 2) ++ [Value.string e.low, Value.int .i64 e.id] ++ R1.drop (i * 2 + 2) := ⟨_, rfl⟩
  rw [← hR2] at sl2 sl3
  obtain ⟨W1, hW1⟩ : ∃ W1, W1 = w.drew.setRow g R1.toArray := ⟨_, rfl⟩
  have hg1 : W1.heap[g]? = some (.cells R1.toArray 53 (0, 0)) := by rw [hW1]; exact setRow_heap w.drew g cur _ _ _ hh
  have hv1 : W1.heap[vb]? = some (.cells #[.string e.low, .int .i64 e.id] 53 (0, 0)) := by rw [hW1, setRow_other _ _ _ _ hne]; exact hv
  have hcp1 : ∀ dc sc, (Builtin.copy_ #[28, 28] 3 #[.slice (some ⟨g, (i + 1) * 2, none⟩) (n + 1 - (i + 1)) dc, .slice (some ⟨g, i * 2, none⟩) (n + 1 - i) sc]).run Try.prog w.drew = .ok (goInt (Nat.min (n + 1 - i) (n + 1 - (i + 1)))) W1 := fun dc sc => by
    rw [hW1, hR1, jrun_copy_row2 w.drew 3 g ((i + 1) * 2) (n + 1 - (i + 1)) dc ⟨g, i * 2, none⟩ (n + 1 - i) sc cur ((jcs es).drop (i * 2)) hh (by rw [hdl]; show _ = min _ _ * 2; omega) (fun j u hj => by
      rw [Addr.add_lit]
      rw [List.getElem?_drop, ← hE2, List.getElem?_take] at hj
      split at hj
      · show w.cell? _ = _
        simp only [World.cell?, hh]
        simpa using hj
      · cases hj) (by rw [hdl, h3]; omega) (fun u hu => jcs_one es u (List.mem_of_mem_drop hu)), show (i + 1) * 2 = i * 2 + 2 by omega]
  have hcp2 : ∀ dc, (Builtin.copy_ #[28, 28] 3 #[.slice (some ⟨g, i * 2, none⟩) (n + 1 - i) dc, .slice (some ⟨vb, 0, none⟩) 1 1]).run Try.prog W1 = .ok (goInt (Nat.min 1 (n + 1 - i))) (W1.setRow g R2.toArray) := fun dc => by
    rw [jrun_copy_row2 W1 3 g (i * 2) (n + 1 - i) dc ⟨vb, 0, none⟩ 1 1 R1.toArray [.string e.low, .int .i64 e.id] hg1 (by show 2 = min _ _ * 2; omega) (fun j u hj => by
      match j, hj with
      | 0, hj => simp at hj; subst hj; simp [Addr.add, World.cell?, hv1]
      | 1, hj => simp at hj; subst hj; simp [Addr.add, World.cell?, hv1]) (by simp [sl1, h3]; omega) (by intro u hu; simp at hu; rcases hu with rfl | rfl <;> rfl), hR2]
    rfl
  have hOW : JOwns (W1.setRow g R2.toArray) B (.slice (some ⟨g, 0, none⟩) (n + 1) c) (es.take i ++ e :: es.drop i) := by
    refine jeowns_back hb (setRow_heap W1 g _ _ _ _ hg1) (by simp; omega) h1 h2 (by simp [sl2, h3]) ?_
    rw [jcs_append]
    simp only [jcs]
    rw [jcs_take, jcs_drop]
    rw [← sl3, show (n + 1) * 2 = n * 2 + 2 by omega]
  have hGR : w.grownBy (W1.setRow g R2.toArray) (some g) := by
    refine grown_trans ?_ (grown_setRow W1 g _)
    rw [hW1]
    have := grown_setRow w.drew g R1.toArray
    exact ⟨this.os, this.tape, this.output, this.size, this.block⟩
  have HOW := hide hOW
  have HGR := hide hGR
  clear hOW hGR sl1 sl2 sl3 hR1 hR2 hW1 hg1 hv1 hdl hE2 h4 hv hh h3 hel
  have hw1 : IntKind.i64.wrap ((i : Int) + 1) = (i : Int) + 1 := by rw [IntKind.wrap_i64]; omega
  have hb1 : (0 : Int) ≤ (i : Int) + 1 := by omega
  have hin : i ≤ n := by omega
  have htn : ((i : Int) + 1).toNat = i + 1 := by omega
  have hb2 : ¬ (c = i + 1) := by omega
  have hb3 : (i : Int) ≤ (n : Int) + 1 := by omega
  have hb4 : ¬ (c = i) := by omega
  clear hn
  go_enter Try.func66, Try.ntmps66
  go_wp2_with (simp only [hov])
  go_region_law (refine stepCopyE rfl (.tmp 73) (.tmp 76) 28 rfl (.slice (some ⟨g, (i + 1) * 2, none⟩) (n + 1 - (i + 1)) (c - (i + 1))) (.slice (some ⟨g, i * 2, none⟩) (n + 1 - i) (c - i)) (goInt (Nat.min (n + 1 - i) (n + 1 - (i + 1)))) W1 (by simp [Act.eval, Act.put]) (by simp [Act.eval, Act.put]) (hcp1 _ _) ?_)
  go_wp2_with (at_builtin; refine wpCopyE rfl (.tmp 80) (.tmp 81) 28 rfl (.slice (some ⟨g, i * 2, none⟩) (n + 1 - i) (c - i)) (.slice (some ⟨vb, 0, none⟩) 1 1) (goInt (Nat.min 1 (n + 1 - i))) (W1.setRow g R2.toArray) rfl rfl (hcp2 _) ?_)
  go_ret
  exact ⟨_, rfl, unhide HOW, by simp, unhide HGR⟩
set_option maxRecDepth 100000 in
set_option maxHeartbeats 4000000 in
theorem jinsert_grow (B g n i : Nat) (es : List RefD) (e : RefD) (vb : Nat) (cur : Array Value) (w : World) (hB : B ≤ w.heap.size) (hh : w.heap[g]? = some (.cells cur 53 (0, 0))) (hn : n = es.length) (h4 : cur.toList.take (n * 2) = jcs es)
    (hi : i < n) (hlen : n ≤ 1000) (hv : w.heap[vb]? = some (.cells #[.string e.low, .int .i64 e.id] 53 (0, 0))) :
    Calls Try.prog 66 #[.slice (some ⟨g, 0, none⟩) n n, .int .i64 (i : Int), .slice (some ⟨vb, 0, none⟩) 1 1] w fun x w' => ∃ v', x = .returned v' ∧ JOwns w' B v' (es.take i ++ e :: es.drop i) ∧ v' ≠ .slice none 0 0 ∧ w.grownBy w' (some g) := by
  obtain ⟨i0, hi0, hz0, hzs, hzb⟩ := info_parts infoJ24
  have hel := jcs_len es
  have hgw : g < w.heap.size := (Array.getElem?_eq_some_iff.1 hh).1
  have hvw : vb < w.heap.size := (Array.getElem?_eq_some_iff.1 hv).1
  have hik : i + (n + 1 - i) = n + 1 := by omega
  have hold : (Builtin.firstCells i0.size i (.slice (some ⟨g, 0, none⟩) i n)).run Try.prog w.drew = .ok ((jcs es).take (i * 2)).toArray w.drew := by
    rw [hzs]
    exact run_firstCells_some w.drew 2 i ⟨g, 0, none⟩ i n ((jcs es).take (i * 2)) (by rw [List.length_take]; omega) (fun j v hj => by
      rw [Addr.add_lit]
      rw [List.getElem?_take, ← h4, List.getElem?_take] at hj
      split at hj
      · split at hj
        · show w.cell? _ = _
          simp only [World.cell?, hh]
          simpa using hj
        · cases hj
      · cases hj)
  obtain ⟨G, hG⟩ : ∃ G, G = grownCap w (n + 1) n 53 := ⟨_, rfl⟩
  have hGn : n + 1 ≤ G := by rw [hG]; exact grownCap_ge w _ _ _
  have hGm : G ≤ maxLen := by rw [hG]; exact grownCap_le_maxLen w (n + 1) n 53 (by unfold maxLen; omega)
  obtain ⟨Z1, hZ1⟩ : ∃ Z1, Z1 = (Builtin.zeroCells (Value.agg #[.string ByteArray.empty, .int .i64 0]).cells (n + 1 - i)).toList := ⟨_, rfl⟩
  obtain ⟨Z2, hZ2⟩ : ∃ Z2, Z2 = (Builtin.zeroCells (Value.agg #[.string ByteArray.empty, .int .i64 0]).cells (G - (n + 1))).toList := ⟨_, rfl⟩
  have lz1 : Z1.length = n * 2 + 2 - i * 2 := by rw [hZ1]; simp [Builtin.zeroCells, Value.cells]; omega
  have lz2 : Z2.length = (G - (n + 1)) * 2 := by rw [hZ2]; simp [Builtin.zeroCells, Value.cells]
  obtain ⟨g0, g1, g2, g3⟩ := grow_list (E := jcs es) (Z1 := Z1) (Z2 := Z2) (p := i * 2) (q := n * 2) (.string e.low) (.int .i64 e.id) (by rw [hel, hn]) (by omega) lz1
  obtain ⟨R0, hR0⟩ : ∃ R0, R0 = (jcs es).take (i * 2) ++ Z1 ++ Z2 := ⟨_, rfl⟩
  rw [← hR0] at g0 g1 g2 g3
  obtain ⟨R1, hR1⟩ : ∃ R1, R1 = R0.take (i * 2) ++ [Value.string e.low, Value.int .i64 e.id] ++ R0.drop (i * 2 + 2) := ⟨_, rfl⟩
  rw [← hR1] at g1 g2 g3
  obtain ⟨R2, hR2⟩ : ∃ R2, R2 = R1.take (i * 2 + 2) ++ (jcs es).drop (i * 2) ++ R1.drop (i * 2 + 2 + ((jcs es).drop (i * 2)).length) := ⟨_, rfl⟩
  rw [← hR2] at g2 g3
  obtain ⟨W1, hW1⟩ : ∃ W1, W1 = w.drew.alloc (.cells R0.toArray 53) := ⟨_, rfl⟩
  have hrz : ∀ ty, (Builtin.append_ #[28, 3] ty #[.slice (some ⟨g, 0, none⟩) i n, .int .i64 ((n : Int) + 1 - (i : Int))]).run Try.prog w = .ok (.slice (some ⟨w.heap.size, 0, none⟩) (n + 1) G) W1 := fun ty => by
    have h := Lib.run_append_grow_zeros w 28 3 ty 53 i0 _ .i64 .i64 Try.underlying28 Try.underlying3 hi0 hz0 (some ⟨g, 0, none⟩) i n ((jcs es).take (i * 2)) hold (n + 1 - i) (by omega) (by omega) (by omega) (by omega) (by rw [hzb]; omega) (by rw [hzb, hik]; exact growslice_fits (by omega) (by omega))
    rw [hik, ← hG] at h
    rw [show (n : Int) + 1 - (i : Int) = ((n + 1 - i : Nat) : Int) by omega, h, hW1, hR0, hZ1, hZ2]
    congr 4
    apply Array.ext'
    simp
  have hsw : W1.heap.size = w.heap.size + 1 := by rw [hW1]; simp
  have hg1 : W1.heap[w.heap.size]? = some (.cells R0.toArray 53 (0, 0)) := by rw [hW1]; exact heap_alloc_new w.drew _
  have hbl : Below w.heap.size w W1 := by
    have := ((Below.refl w.heap.size w).alloc (Nat.le_refl _) (.cells R0.toArray 53))
    rw [hW1]
    exact ⟨this.os, this.tape, this.output, this.size, this.block⟩
  have hv1 : W1.heap[vb]? = some (.cells #[.string e.low, .int .i64 e.id] 53 (0, 0)) := (hbl.block vb hvw).trans hv
  have hh1 : W1.heap[g]? = some (.cells cur 53 (0, 0)) := (hbl.block g hgw).trans hh
  obtain ⟨W2, hW2⟩ : ∃ W2, W2 = W1.setRow w.heap.size R1.toArray := ⟨_, rfl⟩
  have hg2 : W2.heap[w.heap.size]? = some (.cells R1.toArray 53 (0, 0)) := by rw [hW2]; exact setRow_heap W1 _ _ _ _ _ hg1
  have hh2 : W2.heap[g]? = some (.cells cur 53 (0, 0)) := by rw [hW2, setRow_other _ _ _ _ (by omega)]; exact hh1
  have hcp1 : ∀ dc, (Builtin.copy_ #[28, 28] 3 #[.slice (some ⟨w.heap.size, i * 2, none⟩) (n + 1 - i) dc, .slice (some ⟨vb, 0, none⟩) 1 1]).run Try.prog W1 = .ok (goInt (Nat.min 1 (n + 1 - i))) W2 := fun dc => by
    rw [jrun_copy_row2 W1 3 w.heap.size (i * 2) (n + 1 - i) dc ⟨vb, 0, none⟩ 1 1 R0.toArray [.string e.low, .int .i64 e.id] hg1 (by show 2 = min _ _ * 2; omega) (fun j u hj => by
      match j, hj with
      | 0, hj => simp at hj; subst hj; simp [Addr.add, World.cell?, hv1]
      | 1, hj => simp at hj; subst hj; simp [Addr.add, World.cell?, hv1]) (by simp [g0]; omega) (by intro u hu; simp at hu; rcases hu with rfl | rfl <;> rfl), hW2, hR1]
    rfl
  have hdl : (List.drop (i * 2) (jcs es)).length = (n - i) * 2 := by rw [List.length_drop, hel, ← hn]; omega
  obtain ⟨W3, hW3⟩ : ∃ W3, W3 = W2.drew.setRow w.heap.size R2.toArray := ⟨_, rfl⟩
  have hcp2 : ∀ dc sc, (Builtin.copy_ #[28, 28] 3 #[.slice (some ⟨w.heap.size, (i + 1) * 2, none⟩) (n + 1 - (i + 1)) dc, .slice (some ⟨g, i * 2, none⟩) (n - i) sc]).run Try.prog W2.drew = .ok (goInt (Nat.min (n - i) (n + 1 - (i + 1)))) W3 := fun dc sc => by
    rw [hW3, hR2, jrun_copy_row2 W2.drew 3 w.heap.size ((i + 1) * 2) (n + 1 - (i + 1)) dc ⟨g, i * 2, none⟩ (n - i) sc R1.toArray ((jcs es).drop (i * 2)) hg2 (by rw [hdl]; show _ = min _ _ * 2; omega) (fun j u hj => by
      rw [Addr.add_lit]
      rw [List.getElem?_drop, ← h4, List.getElem?_take] at hj
      split at hj
      · show W2.cell? _ = _
        simp only [World.cell?, hh2]
        simpa using hj
      · cases hj) (by rw [hdl]; simp [g1]; omega) (fun u hu => jcs_one es u (List.mem_of_mem_drop hu)), show (i + 1) * 2 = i * 2 + 2 by omega]
  have hOW : JOwns W3 B (.slice (some ⟨w.heap.size, 0, none⟩) (n + 1) G) (es.take i ++ e :: es.drop i) := by
    refine jeowns_back hB (by rw [hW3]; exact setRow_heap W2.drew _ _ _ _ _ hg2) (by simp; omega) hGn hGm (by simp [g2, lz2]; omega) ?_
    rw [jcs_append]
    simp only [jcs]
    rw [jcs_take, jcs_drop]
    rw [← g3, show (n + 1) * 2 = n * 2 + 2 by omega]
  have hGR : w.grownBy W3 (some g) := by
    refine grown_new ?_
    have hb2 : Below w.heap.size w W2 := by
      refine ⟨by rw [hW2]; exact hbl.os, by rw [hW2]; exact hbl.tape, by rw [hW2]; exact hbl.output, by rw [hW2, setRow_size]; exact hbl.size, fun k hk => ?_⟩
      rw [hW2, setRow_other _ _ _ _ (by omega)]
      exact hbl.block k hk
    refine ⟨by rw [hW3]; exact hb2.os, by rw [hW3]; exact hb2.tape, by rw [hW3]; exact hb2.output, by rw [hW3, setRow_size]; exact hb2.size, fun k hk => ?_⟩
    rw [hW3, setRow_other _ _ _ _ (by omega)]
    exact hb2.block k hk
  have HOW := hide hOW
  have HGR := hide hGR
  have hG63 : G ≤ 9223372036854775807 := by unfold maxLen at hGm; omega
  clear hOW hGR g0 g1 g2 g3 hR0 hR1 hR2 hW1 hW2 hW3 hg1 hg2 hv1 hh1 hh2 hdl h4 hv hh hel hold hG hZ1 hZ2 lz1 lz2 hbl hsw hik hz0 hzs hzb hi0
  have hw1 : IntKind.i64.wrap ((i : Int) + 1) = (i : Int) + 1 := by rw [IntKind.wrap_i64]; omega
  have hb1 : (0 : Int) ≤ (i : Int) + 1 := by omega
  have hz1 : ¬ ((i : Int) = (n : Int)) := by omega
  have hin : i ≤ n := by omega
  have htn : ((i : Int) + 1).toNat = i + 1 := by omega
  have hb2 : ¬ (G = i + 1) := by omega
  have hb3 : (i : Int) ≤ (n : Int) := by omega
  have hb4 : ¬ (G = i) := by omega
  have hb5 : ¬ (n = i) := by omega
  clear hn
  go_enter Try.func66, Try.ntmps66
  go_wp2_with (first
    | (at_builtin; refine Lib.wpList_append_run _ rfl _ _ _ _ rfl (.slice (some ⟨g, 0, none⟩) i n) (.int .i64 ((n : Int) + 1 - (i : Int))) rfl rfl (.slice (some ⟨w.heap.size, 0, none⟩) (n + 1) G) W1 (hrz _) ?_)
    | (at_builtin; refine wpCopyE rfl (.tmp 43) (.tmp 44) 28 rfl (.slice (some ⟨w.heap.size, i * 2, none⟩) (n + 1 - i) (G - i)) (.slice (some ⟨vb, 0, none⟩) 1 1) (goInt (Nat.min 1 (n + 1 - i))) W2 rfl rfl (hcp1 _) ?_))
  go_region_law (refine stepCopyE rfl (.tmp 50) (.tmp 53) 28 rfl (.slice (some ⟨w.heap.size, (i + 1) * 2, none⟩) (n + 1 - (i + 1)) (G - (i + 1))) (.slice (some ⟨g, i * 2, none⟩) (n - i) (n - i)) (goInt (Nat.min (n - i) (n + 1 - (i + 1)))) W3 (by simp [Act.eval, Act.put]) (by simp [Act.eval, Act.put]) (hcp2 _ _) ?_)
  go_wp2_with fail
  go_ret
  exact ⟨_, rfl, unhide HOW, by simp, unhide HGR⟩
theorem jinsert_any (B : Nat) (a : Option Addr) (n c i : Nat) (es : List RefD) (e : RefD) (vb : Nat) (w : World) (hown : JOwns w B (.slice a n c) es) (hn : n = es.length) (hi : i ≤ n) (hlen : n ≤ 1000) (hB : B ≤ w.heap.size)
    (hv : w.heap[vb]? = some (.cells #[.string e.low, .int .i64 e.id] 53 (0, 0))) (hne : ∀ x, a = some x → vb ≠ x.block) :
    Calls Try.prog 66 #[.slice a n c, .int .i64 (i : Int), .slice (some ⟨vb, 0, none⟩) 1 1] w fun x w' => ∃ v', x = .returned v' ∧ JOwns w' B v' (es.take i ++ e :: es.drop i) ∧ v' ≠ .slice none 0 0 ∧ w.grownBy w' (Value.slice a n c).ownBlock := by
  rcases Nat.lt_or_eq_of_le hi with hlt | rfl
  · obtain ⟨g, cur, rfl, _, hb, hh, h1, h2, h3, h4⟩ := jeowns_form hown (by omega)
    by_cases hr : n + 1 ≤ c
    · exact jinsert_room B g c n i es e vb cur w hb hh hn hr h2 h3 h4 hlt hlen hv (hne _ rfl)
    · obtain rfl : c = n := by omega
      exact jinsert_grow B g c i es e vb cur w hB hh hn h4 hlt hlen hv
  · subst hn
    have := jinsert_end B a c es e vb w hown hlen hB hv
    rw [List.take_length, List.drop_length]
    exact this
end Go.Proofs.Ytbhkmmdcdfjbkaa

namespace Go.Proofs.Ytbhkmmdcdfjbkaa
open Go.RowKit

/-- Another index. -/
theorem TbF.index {w w' : World} {B mb : Nat} {qs : List (Option (Nat × PpH))} {idx idx' : List RefD} {vp vi v' : Value} (h : TbF w B mb qs idx vp vi) (hg : w.grownBy w' vi.ownBlock) (ho : JOwns w' B v' idx') :
    TbF (w'.setCell ⟨mb, 1, none⟩ v') B mb qs idx' vp v' ∧ WrB (TbW mb vp vi) w (w'.setCell ⟨mb, 1, none⟩ v') ∧ w'.heap[mb]? = some (.cells #[vp, vi] 68 (0, 0)) := by
  have hw := WrB.of_grown hg
  have keep : ∀ (i : Nat) (cs : Array Value) (t : TypeId), w.heap[i]? = some (.cells cs t (0, 0)) → t ≠ 53 → w'.heap[i]? = some (.cells cs t (0, 0)) := fun i cs t hi ht => by
    refine (hw.block i (blk_lt hi) fun e => ?_).trans hi
    obtain ⟨cur, hc⟩ := own_kind h.own.ix e
    rw [hi] at hc
    injection hc with hc
    injection hc with _ hc _
    exact ht hc
  have k0 := keep mb _ _ h.own.box (by decide)
  have c : WrB (fun i => i = mb) w' (w'.setCell ⟨mb, 1, none⟩ v') := ⟨rfl, rfl, rfl, by simp [World.setCell], fun k _ hk => Below.heap_setCell _ _ _ _ hk⟩
  have keep2 : ∀ (i : Nat) (cs : Array Value) (t : TypeId), w.heap[i]? = some (.cells cs t (0, 0)) → t ≠ 53 → t ≠ 68 → (w'.setCell ⟨mb, 1, none⟩ v').heap[i]? = some (.cells cs t (0, 0)) := fun i cs t hi h1 h2 => by
    have h3 := keep i cs t hi h1
    refine (c.block i (blk_lt h3) fun e => ?_).trans h3
    rw [e, k0] at h3
    injection h3 with h3
    injection h3 with _ h3 _
    exact h2 h3.symm
  have hW : WrB (TbW mb vp vi) w (w'.setCell ⟨mb, 1, none⟩ v') := (hw.weak (fun i hi => .inr (.inr hi))).seq (c.weak (fun i hi => .inl hi))
  refine ⟨⟨⟨by have := heap_set k0 1 v'; simpa using this, h.own.bx, ?_, fun b x hx => ?_, ?_⟩, fun b x hx => (h.rows b x hx).wr hW h.own.noRow⟩, hW, k0⟩
  · refine ownsRow_heap h.own.row fun g hg2 => ?_
    obtain ⟨cur, hc⟩ := own_kind h.own.row hg2
    rw [hc]
    exact keep2 g _ _ hc (by decide) (by decide)
  · exact ⟨(h.own.pgs b x hx).1, keep2 b _ _ (h.own.pgs b x hx).2 (by decide) (by decide)⟩
  · refine ownsRow_heap ho fun g hg2 => ?_
    obtain ⟨cur, hc⟩ := own_kind ho hg2
    refine c.block g (blk_lt hc) fun e => ?_
    rw [e, k0] at hc
    injection hc with hc
    injection hc with _ hc _
    exact absurd hc (by decide)
set_option maxRecDepth 100000 in
set_option maxHeartbeats 4000000 in
theorem post_any (B mb : Nat) (qs : List (Option (Nat × PpH))) (idx : List RefD) (vp vi : Value) (id : Nat) (p : PageD) (w : World) (hF : TbF w B mb qs idx vp vi) (hB : B ≤ w.heap.size) (hT : Tre (qsP qs) idx) (hg : getP (qsP qs) (id : Int) = some p) :
    Calls Try.prog 43 #[.pointer (some ⟨mb, 0, none⟩), .int .i64 (id : Int)] w fun e w' => TbRs B mb vp vi (posT (qsP qs) idx id p) w e w' := by
  have NOP := hide (show ∀ u, Below w.heap.size w u → ∀ r : StR, r.ps = qsP qs → r.idx = idx → TbRs B mb vp vi r w (.returned (.tuple #[.int .i64 r.told, .int .i64 r.code])) u from fun u hu r h1 h2 => ⟨qs, vp, vi, rfl, by rw [h2]; exact hF.below hu, h1.symm, WrB.of_below hu⟩)
  have hil : idx.length ≤ 30 := Nat.le_trans hT.good.il hT.len.2
  obtain ⟨pb, x, gp, c, hid, hX, hqe, hvp, hc, hPB, hR⟩ := hF.page hg
  subst hX
  obtain ⟨ap, cp, ai, ci, hvp2, hvi, hM⟩ := hF.table
  have c0 := (heap_at hF.own.box 0).1
  have c1 := (heap_at hF.own.box 1).1
  rw [hvp] at c0
  rw [hvi] at c1
  have q0 := (heap_at hPB 0).1
  have HS := hide (searchRef_any ai idx.length ci idx x.X.lo w hM.ix hT.rise (by omega))
  have hpl := pos_leR idx x.X.lo
  have F := hide hF
  have HVI := hide hvi
  have PT := hide (show posT (qsP qs) idx id x.X = if found (idx.map refE) x.X.lo = true then ⟨qsP qs, idx, 0, 8⟩ else ⟨qsP qs, idx.take (pos (idx.map refE) x.X.lo) ++ ⟨x.X.lo, (id : Int)⟩ :: idx.drop (pos (idx.map refE) x.X.lo), (pos (idx.map refE) x.X.lo : Int), 0⟩ from rfl)
  clear hF hT hg hM hR hPB hqe hvp hvp2 hvi
  obtain ⟨X, s0, s1⟩ := x
  simp only at q0 HS PT hpl
  generalize X.lo = low at *
  obtain ⟨IL, hIL⟩ : ∃ n, n = idx.length := ⟨_, rfl⟩
  rw [← hIL] at c1 HS hil hpl
  have HIL := hide hIL
  clear hIL
  cases hf : found (idx.map refE) low with
  | true =>
    rw [hf] at HS PT
    have RES := hide (show ∀ u, Below w.heap.size w u → TbRs B mb vp vi (posT (qsP qs) idx id X) w (.returned (.tuple #[.int .i64 0, .int .i64 8])) u from fun u hu => by
      rw [unhide PT, if_pos rfl]
      exact unhide NOP _ hu ⟨qsP qs, idx, 0, 8⟩ rfl rfl)
    clear hf PT
    go_enter Try.func43, Try.ntmps43
    go_wp2_with fail
    refine (unhide HS).mono ?_
    rintro e w2 ⟨rfl, hb2⟩
    go_wp2_with fail
    go_ret2
    exact unhide RES _ hb2
  | false =>
    rw [hf] at HS PT
    generalize pos (idx.map refE) low = P at *
    clear hf
    go_enter Try.func43, Try.ntmps43
    go_wp2_with fail
    refine (unhide HS).mono ?_
    rintro e w2 ⟨rfl, hb2⟩
    have F2 := (unhide F).below hb2
    have bx := (Below.refl w2.heap.size w2).alloc (Nat.le_refl _) (.cells #[.string low, .int .i64 (id : Int)] 53)
    have F3 := F2.below bx
    have hv3 := heap_alloc_new w2 (.cells #[.string low, .int .i64 (id : Int)] 53)
    have hown := F3.own.ix
    rw [unhide HVI] at hown
    have HI := hide (jinsert_any B ai idx.length ci P idx ⟨low, (id : Int)⟩ w2.heap.size _ hown rfl (by rw [← unhide HIL]; exact hpl) (by rw [← unhide HIL]; omega) (Nat.le_trans hB (Nat.le_trans hb2.size bx.size)) hv3 (fun ad e h => by
      have h2 := (F2.own.ix).lt ad.block (by rw [unhide HVI, e]; rfl)
      omega))
    rw [← unhide HIL] at HI
    have d1 := (hb2.cell (p := ⟨mb, 1, none⟩) (cell_lt c1)).trans c1
    have F3h := hide F3
    have BB := hide (hb2.trans (bx.mono hb2.size))
    clear F2 F3 hown hv3 bx hb2 c0 c1 hc q0 HS
    go_wp2_with fail
    generalize w2.alloc (.cells #[.string low, .int .i64 (id : Int)] 53) = W3 at *
    refine (unhide HI).mono ?_
    rintro e w4 ⟨v4, rfl, ho4, hne4, hg4⟩
    rw [show (Value.slice ai IL ci).ownBlock = vi.ownBlock by rw [unhide HVI, unhide HIL]] at hg4
    obtain ⟨F5, W5, k5⟩ := (unhide F3h).index hg4 ho4
    have e1 := (heap_at k5 1).1
    have e2 := (heap_at k5 1).2
    obtain ⟨a4, n4, c4, hv4⟩ : ∃ a n c, v4 = .slice a n c := by
      rcases ho4.2 with ⟨e, _⟩ | ⟨_, _, _, e, _⟩
      · exact ⟨_, _, _, e⟩
      · exact ⟨_, _, _, e⟩
    have RES := hide (show TbRs B mb vp vi (posT (qsP qs) idx id X) w (.returned (.tuple #[.int .i64 (P : Int), .int .i64 0])) (w4.setCell ⟨mb, 1, none⟩ v4) by
      rw [unhide PT, if_neg (by decide)]
      exact ⟨qs, vp, v4, rfl, F5, rfl, (WrB.of_below (unhide BB)).seq W5⟩)
    subst hv4
    clear F5 W5 k5 hg4 ho4 hne4 F3h PT HI
    go_wp2_with fail
    go_ret2
    exact unhide RES
end Go.Proofs.Ytbhkmmdcdfjbkaa

namespace Go.Proofs.Ytbhkmmdcdfjbkaa
open Go.RowKit

set_option maxHeartbeats 1000000 in
theorem isGone_any (bx : Nat) (low : ByteArray) (id gone : Int) (w : World) (h : w.cell? ⟨bx, 0, none⟩ = some (.int .i64 gone)) :
    Calls Try.prog 81 #[.agg #[.string low, .int .i64 id], .pointer (some ⟨bx, 0, none⟩)] w fun e w' => e = .returned (.bool (decide (id = gone))) ∧ Below w.heap.size w w' := by
  have B0 := hide (show Below w.heap.size w (w.alloc (.cells #[.string low, .int .i64 id] 53)) from (Below.refl _ _).alloc (Nat.le_refl _) _)
  have h' := (unhide B0).cell (p := ⟨bx, 0, none⟩) (cell_lt h) |>.trans h
  go_enter Try.func81, Try.ntmps81
  go_wp2_with fail
  first | (go_quiet (fail); go_wp2_with fail) | skip
  go_ret
  exact ⟨ret_bool (by by_cases e : id = gone <;> simp [e]), by first | exact unhide B0 | exact bel_drewN (unhide B0) _ | exact (unhide B0).drew⟩
/-- What is not of one page. -/
def notId (gone : Int) (r : RefD) : Bool := !decide (r.id = gone)
set_option maxRecDepth 100000 in
set_option maxHeartbeats 4000000 in
theorem indexGone_any (bx : Nat) (a : Option Addr) (n c : Nat) (ds : List RefD) (gone : Int) (w : World) (hn : n ≤ 1048576) (hr : JRow w a n ds) (h : w.cell? ⟨bx, 0, none⟩ = some (.int .i64 gone)) :
    Calls Try.prog 90 #[.slice a n c, .func (.func 81) #[] #[.pointer (some ⟨bx, 0, none⟩)]] w fun e w' => ∃ r : Int, e = .returned (.int .i64 r) ∧ ((r = -1 ∧ ds.filter (notId gone) = ds) ∨ ∃ i : Nat, r = (i : Int) ∧ i < n ∧ (ds.take (i + 1)).filter (notId gone) = ds.take i) ∧ Below w.heap.size w w' := by
  have L := hide hr.1
  have R := hide hr
  have HB := hide h
  clear hr h
  go_enter Try.func90, Try.ntmps90
  go_wp2_with fail
  go_loopw [8] (fun i wr => ∃ k : Nat, k ≤ n ∧ i = .int .i64 k ∧ Hid ((ds.take k).filter (notId gone) = ds.take k) ∧ Below w.heap.size w wr) (fun i _ => n - (intOf i).toNat)
  case atStart => exact ⟨0, by omega, rfl, rfl, Below.refl _ _⟩
  case round =>
    obtain ⟨k, hk, rfl, hok, hb⟩ := hrel
    by_cases hlt : k < n
    · have hk2 : k < ds.length := by rw [unhide L]; exact hlt
      obtain ⟨b, off, rfl, d0, d1⟩ := ((unhide R).below hb).2 k hk2
      have hsz := hb.size
      have hbx : wr.cell? ⟨bx, 0, none⟩ = some (.int .i64 gone) := (hb.cell (p := ⟨bx, 0, none⟩) (cell_lt (unhide HB))).trans (unhide HB)
      have C := hide (isGone_any bx ds[k].low ds[k].id gone wr hbx)
      have F := hide (show ∀ b, decide (ds[k].id = gone) = b → (ds.take (k + 1)).filter (notId gone) = if b then ds.take k else ds.take (k + 1) from fun b hb => by
        rw [rb_take_snoc ds k hk2, List.filter_append, unhide hok]
        cases b with
        | true => rw [List.filter_cons_of_neg (by unfold notId; rw [hb]; decide)]; simp
        | false => rw [List.filter_cons_of_pos (by unfold notId; rw [hb]; rfl)]; rfl)
      generalize ds[k] = pd at *
      obtain ⟨pl, pi⟩ := pd
      simp only at d0 d1 C F
      clear hok
      cases ht : decide (pi = gone) with
      | false =>
        rw [ht] at C
        have Z := hide (unhide F false ht)
        clear F ht
        go_wp2_with fail
        refine (unhide C).mono ?_
        rintro e w1 ⟨rfl, hb1⟩
        have bA : Below w.heap.size w w1 := hb.trans (hb1.mono hsz)
        clear hb hb1 d0 d1 hbx C
        go_wp2_with fail
        go_roundw
        case rel => exact ⟨k + 1, by omega, by go_num, unhide Z, bA⟩
        case measure => simp [intOf]; omega
      | true =>
        rw [ht] at C
        have Z := hide (unhide F true ht)
        clear F ht
        go_wp2_with fail
        refine (unhide C).mono ?_
        rintro e w1 ⟨rfl, hb1⟩
        have bA : Below w.heap.size w w1 := hb.trans (hb1.mono hsz)
        clear hb hb1 d0 d1 hbx C
        go_wp2_with fail
        go_ret
        exact ⟨k, rfl, .inr ⟨k, rfl, hlt, unhide Z⟩, bA⟩
    · obtain rfl : k = n := by omega
      have Z := hide (show ds.filter (notId gone) = ds by
        have h := unhide hok
        rwa [List.take_of_length_le (by rw [unhide L]; exact Nat.le_refl _)] at h)
      go_wp2_with fail
      go_ret
      exact ⟨-1, rfl, .inl ⟨rfl, unhide Z⟩, hb⟩
/-- Noughts laid over Refs. -/
def zJ (m : Nat) : List Value := (Builtin.zeroCells (Value.agg #[.string ByteArray.empty, .int .i64 0]).cells m).toList
theorem zJ_len (m : Nat) : (zJ m).length = m * 2 := by unfold zJ; rw [Array.length_toList, size_zeroCells]; rfl
theorem zJ_one (m : Nat) : ∀ v ∈ zJ m, v.oneCell' = true := by
  intro v hv
  unfold zJ Builtin.zeroCells at hv
  have hc : (Value.agg #[Value.string ByteArray.empty, .int .i64 0]).cells = #[Value.string ByteArray.empty, .int .i64 0] := by kernel_rfl
  rw [hc] at hv
  simp at hv
  obtain ⟨_, _, rfl⟩ := hv
  rename_i i _
  rcases Nat.mod_two_eq_zero_or_one i with h | h
  · rw [h]; rfl
  · rw [h]; rfl
theorem run_clearJ (w : World) (ty : TypeId) (g o m c : Nat) (cur : Array Value) (hg : w.heap[g]? = some (.cells cur 53 (0, 0))) (hfit : o + m * 2 ≤ cur.size) (hm : 0 < m) :
    (Builtin.clear_ #[28] ty #[.slice (some ⟨g, o, none⟩) m c]).run Try.prog w = .ok (.tuple #[]) (w.setRow g (cur.toList.take o ++ zJ m ++ cur.toList.drop (o + m * 2)).toArray) := by
  obtain ⟨i, hq, hz, _, _⟩ := info_parts infoJ24
  have hv : ∀ w, (zeroValue 53).run Try.prog w = .ok (.agg #[.string ByteArray.empty, .int .i64 0]) w := fun w => by simp [zeroValue, typeInfo, hq, hz]
  have hst := run_storeCells_at Try.prog g o 53 (zJ m) 0 cur w hg (by rw [zJ_len]; simpa using hfit) (zJ_one m)
  rw [zJ_len] at hst
  simp only [Nat.add_zero] at hst
  obtain ⟨j, rfl⟩ : ∃ j, m = j + 1 := ⟨m - 1, by omega⟩
  unfold zJ at hst ⊢
  simp [Builtin.clear_, run_underlying Try.underlying28, hv, hst]
theorem filt_len {ds : List RefD} {gone : Int} (j : Nat) : ((ds.take j).filter (notId gone)).length ≤ j := by
  have h1 := List.length_filter_le (notId gone) (ds.take j)
  rw [List.length_take] at h1
  omega
/-- What stands there when j Refs have been looked at. -/
def delJ (gone : Int) (ds : List RefD) (j : Nat) : List RefD := (ds.take j).filter (notId gone) ++ ds.drop ((ds.take j).filter (notId gone)).length
theorem delJ_len {gone : Int} {ds : List RefD} {j : Nat} (hj : j ≤ ds.length) : (delJ gone ds j).length = ds.length := by
  have := filt_len (ds := ds) (gone := gone) j
  unfold delJ
  rw [List.length_append, List.length_drop]
  omega
theorem delJ_at {gone : Int} {ds : List RefD} {j : Nat} (hj : j < ds.length) (h : j < (delJ gone ds j).length) : (delJ gone ds j)[j] = ds[j] := by
  have h1 := filt_len (ds := ds) (gone := gone) j
  have h2 : (delJ gone ds j)[j]? = ds[j]? := by
    unfold delJ
    rw [List.getElem?_append_right h1, List.getElem?_drop]
    congr 1
    omega
  rw [List.getElem?_eq_getElem h, List.getElem?_eq_getElem hj] at h2
  injection h2
theorem delJ_keep {gone : Int} {ds : List RefD} {j : Nat} (hj : j < ds.length) (h : notId gone ds[j] = true) : delJ gone ds (j + 1) = (delJ gone ds j).set ((ds.take j).filter (notId gone)).length ds[j] ∧ ((ds.take (j + 1)).filter (notId gone)).length = ((ds.take j).filter (notId gone)).length + 1 := by
  have h1 := filt_len (ds := ds) (gone := gone) j
  have e : (ds.take (j + 1)).filter (notId gone) = (ds.take j).filter (notId gone) ++ [ds[j]] := by rw [rb_take_snoc ds j hj, List.filter_append, List.filter_cons_of_pos h, List.filter_nil]
  refine ⟨?_, by rw [e, List.length_append]; rfl⟩
  unfold delJ
  rw [e, List.length_append, List.set_append_right _ _ (Nat.le_refl _), Nat.sub_self, List.drop_eq_getElem_cons (show ((ds.take j).filter (notId gone)).length < ds.length by omega), List.set_cons_zero, List.append_assoc]
  rfl
theorem delJ_skip {gone : Int} {ds : List RefD} {j : Nat} (hj : j < ds.length) (h : notId gone ds[j] = false) : (ds.take (j + 1)).filter (notId gone) = (ds.take j).filter (notId gone) := by
  rw [rb_take_snoc ds j hj, List.filter_append, List.filter_cons_of_neg (by rw [h]; decide), List.filter_nil, List.append_nil]
set_option maxRecDepth 100000 in
set_option maxHeartbeats 8000000 in
theorem deleteGone_any (B bx : Nat) (a : Option Addr) (n c : Nat) (ds : List RefD) (gone : Int) (w : World) (hn : n ≤ 1000) (hO : JOwns w B (.slice a n c) ds) (h : w.cell? ⟨bx, 0, none⟩ = some (.int .i64 gone)) (_hB : B ≤ w.heap.size) (hne : (Value.slice a n c).ownBlock ≠ some bx) :
    Calls Try.prog 80 #[.slice a n c, .func (.func 81) #[] #[.pointer (some ⟨bx, 0, none⟩)]] w fun e w' => ∃ v', e = .returned v' ∧ JOwns w' B v' (ds.filter (notId gone)) ∧ w.grownBy w' (Value.slice a n c).ownBlock := by
  have hr := jrow_of_owns hO
  have L := hide hr.1
  have HI := hide (indexGone_any bx a n c ds gone w (by omega) hr h)
  have O := hide hO
  have HB := hide h
  have NE := hide hne
  clear hO hr h hne
  go_enter Try.func80, Try.ntmps80
  go_wp2_with fail
  refine (unhide HI).mono ?_
  rintro e w1 ⟨r, rfl, hr, hb1⟩
  have O1 := hide (rb_ownsRow_below (unhide O) hb1)
  clear HI
  rcases hr with ⟨rfl, hall⟩ | ⟨i, rfl, hi, hfi⟩
  · have RES := hide (show JOwns w1 B (.slice a n c) (ds.filter (notId gone)) by rw [hall]; exact unhide O1)
    have G := hide (rb_grownBy_below (r := (Value.slice a n c).ownBlock) hb1)
    clear hall hb1 O O1
    go_wp2_with fail
    go_ret
    exact ⟨_, rfl, unhide RES, unhide G⟩
  have hib : ((i : Int) == -1) = false := by rw [beq_eq_false_iff_ne]; omega
  have hnl : n = ds.length := (unhide L).symm
  have hil : i < ds.length := by omega
  obtain ⟨g, cur0, ha, -, hbg, -⟩ := jeowns_form (unhide O1) (by omega)
  subst ha
  have FI := hide (show ((ds.take (i + 1)).filter (notId gone)).length = i by rw [hfi, List.length_take]; omega)
  have S0 := hide (show JOwns w1 B (.slice (some ⟨g, 0, none⟩) n c) (delJ gone ds (i + 1)) by
    have e : delJ gone ds (i + 1) = ds := by
      unfold delJ
      rw [hfi, List.length_take, Nat.min_eq_left (by omega), List.take_append_drop]
    rw [e]
    exact unhide O1)
  have G1 := hide (rb_grownBy_below (r := some g) hb1)
  have LT := hide (show ((ds.take (i + 1)).filter (notId gone)).length < i + 1 by rw [unhide FI]; omega)
  have NL := hide hnl
  clear hnl hil hfi O O1 hb1 hbg
  go_wp2_with fail
  go_loopw [5, 6] (fun iv jv wr => ∃ (k j : Nat), iv = .int .i64 (k : Int) ∧ jv = .int .i64 (j : Int) ∧ j ≤ n ∧ k < j ∧ Hid (((ds.take j).filter (notId gone)).length = k) ∧ Hid (JOwns wr B (.slice (some ⟨g, 0, none⟩) n c) (delJ gone ds j)) ∧ Hid (w.grownBy wr (some g))) (fun _ jv _ => n - (intOf jv).toNat)
  case atStart => exact ⟨i, i + 1, rfl, by go_num, by omega, by omega, FI, S0, G1⟩
  case round =>
    clear S0 G1 FI LT
    obtain ⟨k, j, rfl, rfl, hj, hkj, hF, hO, hG⟩ := hrel
    have hbx : wr.cell? ⟨bx, 0, none⟩ = some (.int .i64 gone) := (World.cell?_of_block (a := ⟨bx, 0, none⟩) ((unhide hG).block bx (cell_lt (unhide HB)) (fun e => unhide NE e.symm))).trans (unhide HB)
    by_cases hlt : j < n
    · have hjl : j < ds.length := by rw [← unhide NL]; exact hlt
      have hjd : j < (delJ gone ds j).length := by rw [delJ_len (by omega)]; exact hjl
      obtain ⟨d0, d1⟩ := jowns_at (unhide hO) j hjd
      rw [delJ_at hjl hjd] at d0 d1
      have KP := hide (fun h => delJ_keep hjl (gone := gone) h)
      have SKP := hide (fun h => delJ_skip hjl (gone := gone) h)
      have hkd : k < (delJ gone ds j).length := by omega
      obtain ⟨t0, t1⟩ := jowns_at (unhide hO) k hkd
      have f0 := jowns_fz (unhide hO) (k * 2)
      have f1 := jowns_fz (unhide hO) (k * 2 + 1)
      generalize (delJ gone ds j)[k] = tk at *
      obtain ⟨b, hb⟩ : ∃ b, b = notId gone ds[j] := ⟨_, rfl⟩
      rw [← hb] at KP SKP
      have ST := hide (fun (u : World) (o : JOwns u B (.slice (some ⟨g, 0, none⟩) n c) (delJ gone ds j)) => jowns_store o k ds[j])
      have bxa := (Below.refl wr.heap.size wr).alloc (Nat.le_refl _) (.cells #[.string ds[j].low, .int .i64 ds[j].id] 53)
      have C := hide (isGone_any bx ds[j].low ds[j].id gone _ ((bxa.cell (p := ⟨bx, 0, none⟩) (cell_lt hbx)).trans hbx))
      have hnb : decide (ds[j].id = gone) = !b := by rw [hb]; unfold notId; simp
      rw [hnb] at C
      clear hnb hb
      generalize hdj : ds[j] = dj at *
      obtain ⟨dl, di⟩ := dj
      simp only at d0 d1 C ST bxa
      cases b with
      | true =>
        obtain ⟨e1, e2⟩ := unhide KP rfl
        rw [unhide hF] at e1 e2
        clear KP SKP hdj
        go_wp2_with fail
        refine (unhide C).mono ?_
        rintro e w3 ⟨rfl, hb3⟩
        have bA := bxa.trans (hb3.mono bxa.size)
        have o3 := rb_ownsRow_below (unhide hO) bA
        have m0 := (hb3.cell (p := ⟨wr.heap.size, 0, none⟩) (by simp)).trans (show (wr.alloc (.cells #[.string dl, .int .i64 di] 53)).cell? ⟨wr.heap.size, 0, none⟩ = some (.string dl) by simp)
        have m1 := (hb3.cell (p := ⟨wr.heap.size, 1, none⟩) (by simp)).trans (show (wr.alloc (.cells #[.string dl, .int .i64 di] 53)).cell? ⟨wr.heap.size, 1, none⟩ = some (.int .i64 di) by simp)
        have O4 := hide (show JOwns ((w3.setCell ⟨g, k * 2, none⟩ (.string dl)).setCell ⟨g, k * 2 + 1, none⟩ (.int .i64 di)) B (.slice (some ⟨g, 0, none⟩) n c) (delJ gone ds (j + 1)) by rw [e1]; exact unhide ST w3 o3)
        have G4 := hide (show w.grownBy ((w3.setCell ⟨g, k * 2, none⟩ (.string dl)).setCell ⟨g, k * 2 + 1, none⟩ (.int .i64 di)) (some g) from rb_grown_trans (rb_grown_trans (unhide hG) (rb_grownBy_below bA)) ⟨rfl, rfl, rfl, by simp [World.setCell], fun i _ hne => (Below.heap_setCell _ _ _ _ (fun e => hne (by rw [e]))).trans (Below.heap_setCell _ _ _ _ (fun e => hne (by rw [e])))⟩)
        have u0 := (World.cell?_of_block (a := ⟨g, k * 2, none⟩) (bA.block g (cell_lt t0))).trans t0
        have u1 := (World.cell?_of_block (a := ⟨g, k * 2 + 1, none⟩) (bA.block g (cell_lt t0))).trans t1
        have g0 := (World.frozen?_of_block (a := ⟨g, k * 2, none⟩) (bA.block g (cell_lt t0))).trans f0
        have g1 := (World.frozen?_of_block (a := ⟨g, k * 2 + 1, none⟩) (bA.block g (cell_lt t0))).trans f1
        have E2 := hide e2
        have hkn : k < n := by omega
        clear d0 d1 t0 t1 f0 f1 hO hG hF C hb3 bA o3 e1 e2 bxa ST hbx hkd
        go_wp2_with fail
        go_roundw
        case rel => exact ⟨k + 1, j + 1, by go_num, by go_num, by omega, by omega, E2, O4, G4⟩
        case measure => simp [intOf]; omega
      | false =>
        have e1 := unhide SKP rfl
        have F2 := hide (show ((ds.take (j + 1)).filter (notId gone)).length = k by rw [e1]; exact unhide hF)
        have D2 := hide (show delJ gone ds (j + 1) = delJ gone ds j by unfold delJ; rw [e1])
        clear KP SKP hdj e1
        go_wp2_with fail
        refine (unhide C).mono ?_
        rintro e w3 ⟨rfl, hb3⟩
        have bA := bxa.trans (hb3.mono bxa.size)
        have O4 := hide (show JOwns w3 B (.slice (some ⟨g, 0, none⟩) n c) (delJ gone ds (j + 1)) by rw [unhide D2]; exact rb_ownsRow_below (unhide hO) bA)
        have G4 := hide (rb_grown_trans (unhide hG) (rb_grownBy_below bA))
        clear d0 d1 t0 t1 f0 f1 hO hG hF C hb3 bA bxa ST hbx hkd D2
        go_wp2_with fail
        go_roundw
        case rel => exact ⟨k, j + 1, rfl, by go_num, by omega, by omega, F2, O4, G4⟩
        case measure => simp [intOf]; omega
    · obtain rfl : j = n := by omega
      have hjd := delJ_len (gone := gone) (ds := ds) (j := j) (by rw [← unhide NL]; exact Nat.le_refl _)
      obtain ⟨g', cur, e1, -, hbg, hgh, h1, h2, h3, h4⟩ := jeowns_form (unhide hO) (by rw [hjd, ← unhide NL]; omega)
      injection e1 with e1
      injection e1 with e1 _ _
      subst e1
      have RJ := fun ty => run_clearJ wr ty g (k * 2) (j - k) (c - k) cur hgh (by rw [h3]; omega) (by omega)
      obtain ⟨NR, hNR⟩ : ∃ NR, NR = (cur.toList.take (k * 2) ++ zJ (j - k) ++ cur.toList.drop (k * 2 + (j - k) * 2)).toArray := ⟨_, rfl⟩
      rw [← hNR] at RJ
      have hW := setRow_heap wr g cur NR _ _ hgh
      have FL := hide (show (ds.filter (notId gone)).length = k by
        have h := unhide hF
        rwa [List.take_of_length_le (by rw [← unhide NL]; exact Nat.le_refl _)] at h)
      have OF := hide (show JOwns (wr.setRow g NR) B (.slice (some ⟨g, 0, none⟩) k c) (ds.filter (notId gone)) by
        have hDJ : delJ gone ds j = ds.filter (notId gone) ++ ds.drop (ds.filter (notId gone)).length := by
          unfold delJ
          rw [List.take_of_length_le (by rw [← unhide NL]; exact Nat.le_refl _)]
        have h5 : cur.toList.take (k * 2) = jcs (ds.filter (notId gone)) := by
          have h6 : (cur.toList.take (j * 2)).take (k * 2) = cur.toList.take (k * 2) := by rw [List.take_take, Nat.min_eq_left (by omega)]
          rw [← h6, h4, ← jcs_take, hDJ, List.take_append_of_le_length (by rw [unhide FL]; exact Nat.le_refl _), List.take_of_length_le (by rw [unhide FL]; exact Nat.le_refl _)]
        refine jeowns_back hbg hW (unhide FL).symm (by omega) h2 ?_ ?_
        · rw [hNR]; simp [zJ_len, h3]; omega
        · rw [hNR, List.append_assoc]
          show ((cur.toList.take (k * 2) ++ (zJ (j - k) ++ cur.toList.drop (k * 2 + (j - k) * 2))).toArray.toList).take (k * 2) = _
          rw [List.toList_toArray, List.take_append_of_le_length (by simp [h3]; omega), List.take_take, Nat.min_self]
          exact h5)
      have GF := hide (show w.grownBy (wr.setRow g NR) (some g) from rb_grown_trans (unhide hG) (grown_setRow wr g NR))
      have hck : ¬ (c = k) := by omega
      have hkj' : k ≤ j := by omega
      clear hNR hW h4 h3 hgh hO hG hF hjd
      go_wp2_with fail
      go_ret
      exact ⟨_, rfl, unhide OF, unhide GF⟩
end Go.Proofs.Ytbhkmmdcdfjbkaa

namespace Go.Proofs.Ytbhkmmdcdfjbkaa
open Go.RowKit

set_option maxRecDepth 100000 in
set_option maxHeartbeats 4000000 in
theorem concatE2 (ob : Nat) (a : Option Addr) (n c : Nat) (es : List EntD) (a2 : Option Addr) (n2 c2 : Nat) (es2 : List EntD) (w : World) (hc : w.cell? ⟨ob, 0, none⟩ = some (.slice a n c)) (hc2 : w.cell? ⟨ob, 1, none⟩ = some (.slice a2 n2 c2)) (hR : ERow w a n es) (hD : ERow w a2 n2 es2) (hcn : a = none → c = 0) (hcn2 : a2 = none → c2 = 0) (hn : n ≤ 1000) (hn2 : n2 ≤ 1000) :
    Calls Try.prog 44 #[.slice (some ⟨ob, 0, none⟩) 2 2] w fun e w' => ∃ v, e = .returned v ∧ EOwns w' w.heap.size v (es ++ es2) ∧ Below w.heap.size w w' := by
  have R := hide hR
  have R2 := hide hD
  have LD := hide hR.1
  have hob := cell_lt hc
  clear hR hD
  go_enter Try.func44, Try.ntmps44
  go_wp2_with fail
  refine wp_loop_rounds 3 ?_
  rw [rounds_succ]
  go_wp2_with fail
  rw [rounds_succ]
  go_wp2_with fail
  rw [rounds_succ]
  go_wp2_with fail
  refine (growE (n + n2) w (by omega)).mono ?_
  rintro e w1 ⟨v1, rfl, hO, _, hb⟩
  obtain ⟨v2, w2, hr, hO2, hg2, _⟩ := run_appE (c := c) 23 hO ((unhide R).below hb) (by simp) (by omega) hcn hb.size
  have hc1 := (hb.cell (p := ⟨ob, 0, none⟩) hob).trans hc
  have b2 : Below w.heap.size w w2 := hb.trans ((Below.refl w.heap.size w1).grown hg2 hb.size (fun k hk => (hO.lt k hk).1))
  have hc3 := (b2.cell (p := ⟨ob, 1, none⟩) hob).trans hc2
  obtain ⟨v3, w3, hr3, hO3, hg3, _⟩ := run_appE (c := c2) 23 hO2 ((unhide R2).below b2) (by have := unhide LD; simp; omega) (by omega) hcn2 b2.size
  have B3 := hide (b2.trans ((Below.refl w.heap.size w2).grown hg3 b2.size (fun k hk => (hO2.lt k hk).1)))
  have O3 := hide (show EOwns w3 w.heap.size v3 (es ++ es2) from hO3)
  clear hO hO2 hg2 hb R R2 hO3 hg3 b2
  go_wp2_with fail
  refine wp_loop_rounds 3 ?_
  rw [rounds_succ]
  go_wp2_with (at_builtin; refine wpAppE rfl _ _ 23 rfl _ _ v2 w2 rfl rfl hr ?_)
  rw [rounds_succ]
  go_wp2_with (at_builtin; refine wpAppE rfl _ _ 23 rfl _ _ v3 w3 rfl rfl hr3 ?_)
  rw [rounds_succ]
  go_wp2_with fail
  go_ret
  exact ⟨v3, rfl, unhide O3, unhide B3⟩
set_option maxRecDepth 100000 in
set_option maxHeartbeats 8000000 in
theorem merge_any (B mb : Nat) (qs : List (Option (Nat × PpH))) (idx : List RefD) (vp vi : Value) (id : Nat) (p : PageD) (w : World) (hF : TbF w B mb qs idx vp vi) (hB : B ≤ w.heap.size) (hT : Tre (qsP qs) idx) (hg : getP (qsP qs) (id : Int) = some p) :
    Calls Try.prog 64 #[.pointer (some ⟨mb, 0, none⟩), .int .i64 (id : Int)] w fun e w' => TbRs B mb vp vi (merT (qsP qs) idx id p) w e w' := by
  have NOP := hide (show ∀ u, Below w.heap.size w u → ∀ r : StR, r.ps = qsP qs → r.idx = idx → TbRs B mb vp vi r w (.returned (.tuple #[.int .i64 r.told, .int .i64 r.code])) u from fun u hu r h1 h2 => ⟨qs, vp, vi, rfl, by rw [h2]; exact hF.below hu, h1.symm, WrB.of_below hu⟩)
  have hok := hT.ok _ p hg
  have hil : idx.length ≤ 30 := Nat.le_trans hT.good.il hT.len.2
  have NX := hT.next _ p hg
  have OKA := hT.ok
  obtain ⟨pb, x, gp, c, hid, hX, hqe, hvp, hc, hPB, hR⟩ := hF.page hg
  subst hX
  have c0 := (heap_at hF.own.box 0).1
  rw [hvp] at c0
  have q0 := (heap_at hPB 0).1
  have q1 := (heap_at hPB 1).1
  have q2 := (heap_at hPB 2).1
  have q3 := (heap_at hPB 3).1
  have q4 := (heap_at hPB 4).1
  have HC := hide (implConsolidate_any x.X.lo x.X.hi x.X.r x.s0.a x.s0.n x.s0.c x.X.es x.s1.a x.s1.n x.s1.c x.X.ds w hR.es hR.ds)
  unfold ConRes at HC
  rw [show conP x.X.lo x.X.hi x.X.r x.X.es x.X.ds = conPg x.X from conPg_eq hok, show conC x.X.lo x.X.hi x.X.r x.X.es x.X.ds = 0 from (con_ok hok).2] at HC
  unfold pgv at HC
  have hen := enP_len hok
  have QE := hide hqe
  have HVP := hide hvp
  have F := hide hF
  obtain ⟨C, hC⟩ : ∃ C, C = conPg x.X := ⟨_, rfl⟩
  have CE := hide (show C.es = enP x.X ∧ C.lo = x.X.lo ∧ C.r = riP x.X by rw [hC]; exact ⟨rfl, rfl, rfl⟩)
  rw [← hC] at HC
  clear hC hT hg hqe hvp hR hPB hok
  obtain ⟨Clo, Chi, Cr, Ces, Cds⟩ := C
  simp only at HC CE
  obtain ⟨X, ⟨a0, n0, k0⟩, ⟨a1, n1, k1⟩⟩ := x
  simp only at q0 q1 q2 q3 q4 HC hen CE NX
  rw [← (unhide CE).1] at hen
  have HCR := hide (show Cr = riP X from (unhide CE).2.2)
  go_enter Try.func64, Try.ntmps64
  go_wp2_with fail
  refine (unhide HC).mono ?_
  rintro e w2 ⟨aE, nE, kE, rfl, hOE, hb2⟩
  have hnE : nE = Ces.length := by
    obtain ⟨aE2, kE2, hvE, _⟩ := eowns_slice hOE
    injection hvE
  have HNE := hide hnE
  have hn32 : nE ≤ 32 := by omega
  clear hnE hen HC
  by_cases hneg : Cr < 0
  · have hm1 : Cr = -1 := by
      rcases NX with ⟨h, _⟩ | ⟨_, q, hq, _⟩
      · rw [unhide HCR]; exact h
      · rw [← unhide HCR, getP_neg hneg] at hq; cases hq
    have bx := hb2.alloc hb2.size (.cells #[.string Clo, .string Chi, .int .i64 Cr, .slice aE nE kE, .slice none 0 0] 51)
    have RES := hide (show TbRs B mb vp vi (merT (qsP qs) idx id X) w (.returned (.tuple #[.int .i64 0, .int .i64 5])) (w2.alloc (.cells #[.string Clo, .string Chi, .int .i64 Cr, .slice aE nE kE, .slice none 0 0] 51)) by
      unfold merT
      rw [if_pos (by rw [← unhide HCR]; exact hneg)]
      exact unhide NOP _ bx ⟨qsP qs, idx, 0, 5⟩ rfl rfl)
    clear NOP hOE hb2 NX OKA hF
    subst hm1
    go_wp2_with fail
    go_ret2
    exact unhide RES
  have hr1 : (Cr == -1) = false := by rw [beq_eq_false_iff_ne]; omega
  obtain ⟨q, hq⟩ : ∃ q, getP (qsP qs) Cr = some q := by
    rcases NX with ⟨h, _⟩ | ⟨_, q, hq, _⟩
    · exfalso; rw [← unhide HCR] at h; omega
    · exact ⟨q, by rw [unhide HCR]; exact hq⟩
  have hokq := OKA _ q hq
  have MT := hide (show merT (qsP qs) idx id X = if 32 < (enP X).length + (enP q).length then ⟨qsP qs, idx, 0, 7⟩ else ⟨((qsP qs).set id (some (merPg X q))).set Cr.toNat none, idx.filter (notId Cr), Cr, 0⟩ by
    unfold merT
    rw [if_neg (by rw [← unhide HCR]; exact hneg), ← unhide HCR, hq]
    rfl)
  obtain ⟨j, hj, _⟩ := getP_lt hq
  subst hj
  rw [Int.toNat_natCast] at MT
  clear NX OKA hneg
  obtain ⟨qb, y, gp', c', hjd, hY, hqy, hvp', hcy, hPY, hRy⟩ := hF.page hq
  rw [unhide HVP] at hvp'
  injection hvp' with e1 _ e3
  injection e1 with e1
  injection e1 with e1 _ _
  subst e1 e3 hY
  have bx4 := (hb2.alloc hb2.size (.cells #[.string Clo, .string Chi, .int .i64 (j : Int), .slice aE nE kE, .slice none 0 0] 51)).alloc (by have := hb2.size; simp; omega) (.cells #[.int .i64 (j : Int)] 3)
  have KX := hide (show ((w2.alloc (.cells #[.string Clo, .string Chi, .int .i64 (j : Int), .slice aE nE kE, .slice none 0 0] 51)).alloc (.cells #[.int .i64 (j : Int)] 3)).heap[w2.heap.size]? = _ from (((Below.refl (w2.alloc (.cells #[.string Clo, .string Chi, .int .i64 (j : Int), .slice aE nE kE, .slice none 0 0] 51)).heap.size (w2.alloc (.cells #[.string Clo, .string Chi, .int .i64 (j : Int), .slice aE nE kE, .slice none 0 0] 51))).alloc (Nat.le_refl _) (.cells #[.int .i64 (j : Int)] 3)).block w2.heap.size (by simp)).trans (heap_alloc_new w2 (.cells #[.string Clo, .string Chi, .int .i64 (j : Int), .slice aE nE kE, .slice none 0 0] 51)))
  have KG := hide (show ((w2.alloc (.cells #[.string Clo, .string Chi, .int .i64 (j : Int), .slice aE nE kE, .slice none 0 0] 51)).alloc (.cells #[.int .i64 (j : Int)] 3)).heap[w2.heap.size + 1]? = some (.cells #[.int .i64 (j : Int)] 3 (0, 0)) by have h := heap_alloc_new (w2.alloc (.cells #[.string Clo, .string Chi, .int .i64 (j : Int), .slice aE nE kE, .slice none 0 0] 51)) (.cells #[.int .i64 (j : Int)] 3); simpa using h)
  have OE4 := hide (rb_ownsRow_below (rb_ownsRow_below hOE ((Below.refl w2.heap.size w2).alloc (Nat.le_refl _) (.cells #[.string Clo, .string Chi, .int .i64 (j : Int), .slice aE nE kE, .slice none 0 0] 51))) ((Below.refl _ _).alloc (Nat.le_refl _) (.cells #[.int .i64 (j : Int)] 3)))
  have s1 : ((w2.alloc (.cells #[.string Clo, .string Chi, .int .i64 (j : Int), .slice aE nE kE, .slice none 0 0] 51)).alloc (.cells #[.int .i64 (j : Int)] 3)).cell? ⟨mb, 0, none⟩ = some (.slice (some ⟨gp, 0, none⟩) qs.length c) := (bx4.cell (p := ⟨mb, 0, none⟩) (cell_lt c0)).trans c0
  have s2 := (bx4.cell (p := ⟨gp, j, none⟩) (cell_lt hcy)).trans hcy
  have s3 : ((w2.alloc (.cells #[.string Clo, .string Chi, .int .i64 (j : Int), .slice aE nE kE, .slice none 0 0] 51)).alloc (.cells #[.int .i64 (j : Int)] 3)).cell? ⟨w2.heap.size + 1, 0, none⟩ = some (.int .i64 (j : Int)) := (heap_at (unhide KG) 0).1
  have y0 : ((w2.alloc (.cells #[.string Clo, .string Chi, .int .i64 (j : Int), .slice aE nE kE, .slice none 0 0] 51)).alloc (.cells #[.int .i64 (j : Int)] 3)).cell? ⟨qb, 0, none⟩ = some (.string y.X.lo) := (bx4.cell (p := ⟨qb, 0, none⟩) (blk_lt hPY)).trans (heap_at hPY 0).1
  have y1 : ((w2.alloc (.cells #[.string Clo, .string Chi, .int .i64 (j : Int), .slice aE nE kE, .slice none 0 0] 51)).alloc (.cells #[.int .i64 (j : Int)] 3)).cell? ⟨qb, 1, none⟩ = some (.string y.X.hi) := (bx4.cell (p := ⟨qb, 1, none⟩) (blk_lt hPY)).trans (heap_at hPY 1).1
  have y2 : ((w2.alloc (.cells #[.string Clo, .string Chi, .int .i64 (j : Int), .slice aE nE kE, .slice none 0 0] 51)).alloc (.cells #[.int .i64 (j : Int)] 3)).cell? ⟨qb, 2, none⟩ = some (.int .i64 y.X.r) := (bx4.cell (p := ⟨qb, 2, none⟩) (blk_lt hPY)).trans (heap_at hPY 2).1
  have y3 : ((w2.alloc (.cells #[.string Clo, .string Chi, .int .i64 (j : Int), .slice aE nE kE, .slice none 0 0] 51)).alloc (.cells #[.int .i64 (j : Int)] 3)).cell? ⟨qb, 3, none⟩ = some (.slice y.s0.a y.s0.n y.s0.c) := (bx4.cell (p := ⟨qb, 3, none⟩) (blk_lt hPY)).trans (heap_at hPY 3).1
  have y4 : ((w2.alloc (.cells #[.string Clo, .string Chi, .int .i64 (j : Int), .slice aE nE kE, .slice none 0 0] 51)).alloc (.cells #[.int .i64 (j : Int)] 3)).cell? ⟨qb, 4, none⟩ = some (.slice y.s1.a y.s1.n y.s1.c) := (bx4.cell (p := ⟨qb, 4, none⟩) (blk_lt hPY)).trans (heap_at hPY 4).1
  have R4 := hide (hRy.below bx4)
  have QY := hide hqy
  have hen2 := enP_len hokq
  have zw2 := hb2.size
  have BW4 := hide bx4
  have ze : w2.heap.size + 1 < ((w2.alloc (.cells #[.string Clo, .string Chi, .int .i64 (j : Int), .slice aE nE kE, .slice none 0 0] 51)).alloc (.cells #[.int .i64 (j : Int)] 3)).heap.size := by simp
  clear c0 hc q0 q1 q2 q3 q4 hPY hRy hcy hqy bx4 hOE hF hb2 hq
  go_upto_region 5 with fail
  generalize (w2.alloc (.cells #[.string Clo, .string Chi, .int .i64 (j : Int), .slice aE nE kE, .slice none 0 0] 51)).alloc (.cells #[.int .i64 (j : Int)] 3) = V at *
  generalize hxe : w2.heap.size = xb at *
  clear hxe
  have TW := hide (show ∀ i, TbW mb vp vi i → i < w.heap.size from fun i hi => by
    rcases hi with rfl | hi | hi
    · exact blk_lt (unhide F).own.box
    · exact ((unhide F).own.row.lt i hi).2
    · exact ((unhide F).own.ix.lt i hi).2)
  have HX := hide (fun (u : World) (hu : Below V.heap.size V u) => implConsolidate_any y.X.lo y.X.hi y.X.r y.s0.a y.s0.n y.s0.c y.X.es y.s1.a y.s1.n y.s1.c y.X.ds u ((unhide R4).below hu).es ((unhide R4).below hu).ds)
  unfold ConRes pgv at HX
  rw [show conP y.X.lo y.X.hi y.X.r y.X.es y.X.ds = conPg y.X from conPg_eq hokq, show conC y.X.lo y.X.hi y.X.r y.X.es y.X.ds = 0 from (con_ok hokq).2] at HX
  obtain ⟨D, hD⟩ : ∃ D, D = conPg y.X := ⟨_, rfl⟩
  have DE := hide (show D.es = enP y.X ∧ D.hi = hiP y.X ∧ D.r = riP y.X by rw [hD]; exact ⟨rfl, rfl, rfl⟩)
  rw [← hD] at HX
  clear hD hokq R4
  obtain ⟨Dlo, Dhi, Dr, Des, Dds⟩ := D
  obtain ⟨Y, ⟨b0, m0, l0⟩, ⟨b1, m1, l1⟩⟩ := y
  simp only at HX DE y0 y1 y2 y3 y4 MT hen2
  rw [← (unhide DE).1] at hen2
  have SK := hide (show ∀ u, Below V.heap.size V u → (u.cell? ⟨mb, 0, none⟩ = some (.slice (some ⟨gp, 0, none⟩) qs.length c) ∧ u.cell? ⟨xb + 1, 0, none⟩ = some (.int .i64 (j : Int)) ∧ u.cell? ⟨gp, j, none⟩ = some (.pointer (some ⟨qb, 0, none⟩)) ∧ u.cell? ⟨qb, 0, none⟩ = some (.string Y.lo) ∧ u.cell? ⟨qb, 1, none⟩ = some (.string Y.hi) ∧ u.cell? ⟨qb, 2, none⟩ = some (.int .i64 Y.r) ∧ u.cell? ⟨qb, 3, none⟩ = some (.slice b0 m0 l0) ∧ u.cell? ⟨qb, 4, none⟩ = some (.slice b1 m1 l1)) from fun u hb => ⟨(hb.cell (p := ⟨mb, 0, none⟩) (cell_lt s1)).trans s1, (hb.cell (p := ⟨xb + 1, 0, none⟩) (cell_lt s3)).trans s3, (hb.cell (p := ⟨gp, j, none⟩) (cell_lt s2)).trans s2, (hb.cell (p := ⟨qb, 0, none⟩) (cell_lt y0)).trans y0, (hb.cell (p := ⟨qb, 1, none⟩) (cell_lt y1)).trans y1, (hb.cell (p := ⟨qb, 2, none⟩) (cell_lt y2)).trans y2, (hb.cell (p := ⟨qb, 3, none⟩) (cell_lt y3)).trans y3, (hb.cell (p := ⟨qb, 4, none⟩) (cell_lt y4)).trans y4⟩)
  refine wp_region_held_drew (S := (fun u => (u.cell? ⟨mb, 0, none⟩ = some (.slice (some ⟨gp, 0, none⟩) qs.length c) ∧ u.cell? ⟨xb + 1, 0, none⟩ = some (.int .i64 (j : Int)) ∧ u.cell? ⟨gp, j, none⟩ = some (.pointer (some ⟨qb, 0, none⟩)) ∧ u.cell? ⟨qb, 0, none⟩ = some (.string Y.lo) ∧ u.cell? ⟨qb, 1, none⟩ = some (.string Y.hi) ∧ u.cell? ⟨qb, 2, none⟩ = some (.int .i64 Y.r) ∧ u.cell? ⟨qb, 3, none⟩ = some (.slice b0 m0 l0) ∧ u.cell? ⟨qb, 4, none⟩ = some (.slice b1 m1 l1)))) (by kernel_rfl) (⟨s1, s3, s2, y0, y1, y2, y3, y4⟩) (fun hHeld => ?_)
  refine anyH_take 0 30 (v := ?v13) rfl rfl (by kernel_rfl) (by kernel_rfl) (by kernel_rfl) (fun _ _ _ h => h) (by rfl) ?h13 hHeld ?r13
  case h13 => (intro w hSw; (try dsimp only at hSw); go_simp; try (with_reducible rfl))
  simp only [Act.put, List.setIfInBounds_toArray, List.set_cons_zero, List.set_cons_succ]
  refine anyH_take 1 31 (v := ?v14) rfl rfl (by kernel_rfl) (by kernel_rfl) (by kernel_rfl) (fun _ _ _ h => h) (by rfl) ?h14 hHeld ?r14
  case h14 => (intro w hSw; (try dsimp only at hSw); go_simp; try (with_reducible rfl))
  simp only [Act.put, List.setIfInBounds_toArray, List.set_cons_zero, List.set_cons_succ]
  refine anyH_take 2 32 (v := ?v15) rfl rfl (by kernel_rfl) (by kernel_rfl) (by kernel_rfl) (fun _ _ _ h => h) (by rfl) ?h15 hHeld ?r15
  case h15 => (intro w hSw; (try dsimp only at hSw); go_simp; try (with_reducible rfl))
  simp only [Act.put, List.setIfInBounds_toArray, List.set_cons_zero, List.set_cons_succ]
  refine anyH_take 3 33 (v := ?v16) rfl rfl (by kernel_rfl) (by kernel_rfl) (by kernel_rfl) (fun _ _ _ h => h) (by rfl) ?h16 hHeld ?r16
  case h16 => (intro w hSw; (try dsimp only at hSw); go_simp; try (with_reducible rfl))
  simp only [Act.put, List.setIfInBounds_toArray, List.set_cons_zero, List.set_cons_succ]
  refine anyH_take 4 34 (v := ?v17) rfl rfl (by kernel_rfl) (by kernel_rfl) (by kernel_rfl) (fun _ _ _ h => h) (by rfl) ?h17 hHeld ?r17
  case h17 => (intro w hSw; (try dsimp only at hSw); go_simp; try (with_reducible rfl))
  simp only [Act.put, List.setIfInBounds_toArray, List.set_cons_zero, List.set_cons_succ]
  refine anyH_take 5 35 (v := ?v18) rfl rfl (by kernel_rfl) (by kernel_rfl) (by kernel_rfl) (fun _ _ _ h => h) (by rfl) ?h18 hHeld ?r18
  case h18 => (intro w hSw; (try dsimp only at hSw); go_simp; try (with_reducible rfl))
  simp only [Act.put, List.setIfInBounds_toArray, List.set_cons_zero, List.set_cons_succ]
  refine anyH_take 6 36 (v := ?v19) rfl rfl (by kernel_rfl) (by kernel_rfl) (by kernel_rfl) (fun _ _ _ h => h) (by rfl) ?h19 hHeld ?r19
  case h19 => (intro w hSw; (try dsimp only at hSw); go_simp; try (with_reducible rfl))
  simp only [Act.put, List.setIfInBounds_toArray, List.set_cons_zero, List.set_cons_succ]
  refine anyH_take 7 37 (v := ?v20) rfl rfl (by kernel_rfl) (by kernel_rfl) (by kernel_rfl) (fun _ _ _ h => h) (by rfl) ?h20 hHeld ?r20
  case h20 => (intro w hSw; (try dsimp only at hSw); go_simp; try (with_reducible rfl))
  simp only [Act.put, List.setIfInBounds_toArray, List.set_cons_zero, List.set_cons_succ]
  refine anyH_take 8 38 (v := ?v21) rfl rfl (by kernel_rfl) (by kernel_rfl) (by kernel_rfl) (fun _ _ _ h => h) (by rfl) ?h21 hHeld ?r21
  case h21 => (intro w hSw; (try dsimp only at hSw); go_simp; try (with_reducible rfl))
  simp only [Act.put, List.setIfInBounds_toArray, List.set_cons_zero, List.set_cons_succ]
  refine wpAnyH_ready (rs := [9, 13]) (by kernel_rfl) (by simp) ?_
  refine AllReadyH.cons rfl (fun K hK => ?_) (AllReadyH.cons rfl (fun K hK => ?_) AllReadyH.nil)
  · go_simp
    refine (unhide HX _ ((Below.refl V.heap.size V).drew)).mono ?_
    rintro e w6 ⟨aD, nD, kD, rfl, oD, b6⟩
    refine hK.out _ _ (unhide SK _ (((Below.refl V.heap.size V).drew).trans b6)) (fun hHeld => ?_)
    clear hK K
    refine anyH_take 10 29 (v := ?v22) rfl rfl (by kernel_rfl) (by kernel_rfl) (by kernel_rfl) (fun _ _ _ h => h) (by rfl) ?h22 hHeld ?r22
    case h22 => (intro w hSw; (try dsimp only at hSw); go_simp; try (with_reducible rfl))
    simp only [Act.put, List.setIfInBounds_toArray, List.set_cons_zero, List.set_cons_succ]
    refine anyH_take 11 40 (v := ?v23) rfl rfl (by kernel_rfl) (by kernel_rfl) (by kernel_rfl) (fun _ _ _ h => h) (by rfl) ?h23 hHeld ?r23
    case h23 => (intro w hSw; (try dsimp only at hSw); go_simp; try (with_reducible rfl))
    simp only [Act.put, List.setIfInBounds_toArray, List.set_cons_zero, List.set_cons_succ]
    refine anyH_take 12 41 (v := ?v24) rfl rfl (by kernel_rfl) (by kernel_rfl) (by kernel_rfl) (fun _ _ _ h => h) (by rfl) ?h24 hHeld ?r24
    case h24 => (intro w hSw; (try dsimp only at hSw); go_simp; try (with_reducible rfl))
    simp only [Act.put, List.setIfInBounds_toArray, List.set_cons_zero, List.set_cons_succ]
    refine wpAnyH_ready (rs := [13]) (by kernel_rfl) (by simp) ?_
    refine AllReadyH.cons rfl (fun K hK => ?_) AllReadyH.nil
    go_simp
    refine hK.out _ _ (unhide SK _ ((((Below.refl V.heap.size V).drew).trans b6).alloc (by have := b6.size; simpa using this) _)) (fun hHeld => ?_)
    clear hK K
    refine wpAnyH_ready (rs := [14]) (by kernel_rfl) (by simp) ?_
    refine AllReadyH.cons rfl (fun K hK => ?_) AllReadyH.nil
    go_simp
    refine hK.out _ _ (unhide SK _ ((((Below.refl V.heap.size V).drew).trans b6).alloc (by have := b6.size; simpa using this) _)) (fun hHeld => ?_)
    clear hK K
    refine anyH_take 15 10 (v := ?v25) rfl rfl (by kernel_rfl) (by kernel_rfl) (by kernel_rfl) (fun _ _ _ h => h) (by rfl) ?h25 hHeld ?r25
    case h25 => (intro w hSw; (try dsimp only at hSw); go_simp; try (with_reducible rfl))
    simp only [Act.put, List.setIfInBounds_toArray, List.set_cons_zero, List.set_cons_succ]
    refine wpAnyH_done (by kernel_rfl) ?_ _
    have bX : Below V.heap.size V (w6.alloc (.cells #[.string Dlo, .string Dhi, .int .i64 Dr, .slice aD nD kD, .slice none 0 0] 51)) := (((Below.refl V.heap.size V).drew).trans b6).alloc (by have := b6.size; simpa using this) _
    have kY : (w6.alloc (.cells #[.string Dlo, .string Dhi, .int .i64 Dr, .slice aD nD kD, .slice none 0 0] 51)).heap[w6.heap.size]? = some (.cells #[.string Dlo, .string Dhi, .int .i64 Dr, .slice aD nD kD, .slice none 0 0] 51 (0, 0)) := heap_alloc_new _ _
    have oX : EOwns (w6.alloc (.cells #[.string Dlo, .string Dhi, .int .i64 Dr, .slice aD nD kD, .slice none 0 0] 51)) V.heap.size (.slice aD nD kD) Des := rb_ownsRow_below (gd_base oD (Nat.le_refl _)) ((Below.refl _ _).alloc (Nat.le_refl _) _)
    have zX : V.heap.size ≤ w6.heap.size := by have := b6.size; simpa using this
    clear oD b6
    generalize (w6.alloc (.cells #[.string Dlo, .string Dhi, .int .i64 Dr, .slice aD nD kD, .slice none 0 0] 51)) = X0 at *
    generalize w6.heap.size = ob at *
    clear HX SK
    have HND := hide (show nD = Des.length by
      obtain ⟨_, _, hvD, _⟩ := eowns_slice oX
      injection hvD)
    have hd32 : nD ≤ 32 := by rw [unhide HND]; exact hen2
    have hxV : xb < V.heap.size := by omega
    have kX := (bX.block xb hxV).trans (unhide KX)
    have kG := (bX.block (xb + 1) ze).trans (unhide KG)
    have oE := rb_ownsRow_below (unhide OE4) bX
    have B0 := (unhide BW4).trans (bX.mono (unhide BW4).size)
    have hobx : ob ≠ xb := by omega
    obtain ⟨u0, u1, u2, u3, u4⟩ := pg_cells5 kX
    obtain ⟨v0, v1, v2, v3, v4⟩ := pg_cells5 kY
    by_cases hbig : 32 < nE + nD
    · have RES := hide (show TbRs B mb vp vi (merT (qsP qs) idx id X) w (.returned (.tuple #[.int .i64 0, .int .i64 7])) X0 by
        rw [unhide MT, if_pos (by rw [← (unhide CE).1, ← (unhide DE).1, ← unhide HNE, ← unhide HND]; exact hbig)]
        exact unhide NOP _ B0 ⟨qsP qs, idx, 0, 7⟩ rfl rfl)
      have hbig' : (32 : Int) < (nE : Int) + (nD : Int) := by omega
      clear MT NOP
      go_wp2_with fail
      go_ret2
      exact unhide RES
    have MT2 := hide (show merT (qsP qs) idx id X = ⟨((qsP qs).set id (some ⟨Clo, Dhi, Dr, Ces ++ Des, []⟩)).set j none, idx.filter (notId (j : Int)), (j : Int), 0⟩ by
      rw [unhide MT, if_neg (by rw [← (unhide CE).1, ← (unhide DE).1, ← unhide HNE, ← unhide HND]; exact hbig)]
      unfold merPg
      rw [← (unhide CE).1, ← (unhide DE).1, ← (unhide CE).2.1, ← (unhide DE).2.1, ← (unhide DE).2.2])
    have hbig' : ¬ ((32 : Int) < (nE : Int) + (nD : Int)) := by omega
    clear MT
    go_upto_region 8 with fail
    have SK8 := hide (show ∀ u : World, u.heap[ob]? = X0.heap[ob]? → (u.cell? ⟨ob, 1, none⟩ = some (.string Dhi) ∧ u.cell? ⟨ob, 2, none⟩ = some (.int .i64 Dr)) from fun u hu => ⟨(World.cell?_of_block (a := ⟨ob, 1, none⟩) hu).trans v1, (World.cell?_of_block (a := ⟨ob, 2, none⟩) hu).trans v2⟩)
    obtain ⟨f0, f1, f2, f3, f4⟩ := fz_cells kX
    refine wp_region_held_drew (S := (fun u => (u.cell? ⟨ob, 1, none⟩ = some (.string Dhi) ∧ u.cell? ⟨ob, 2, none⟩ = some (.int .i64 Dr)))) (by kernel_rfl) (⟨v1, v2⟩) (fun hHeld => ?_)
    refine anyH_take 0 50 (v := ?v7) rfl rfl (by kernel_rfl) (by kernel_rfl) (by kernel_rfl) (fun _ _ _ h => h) (by rfl) ?h7 hHeld ?r7
    case h7 => (intro w hSw; (try dsimp only at hSw); go_simp; try (with_reducible rfl))
    simp only [Act.put, List.setIfInBounds_toArray, List.set_cons_zero, List.set_cons_succ]
    refine anyH_take 1 51 (v := ?v8) rfl rfl (by kernel_rfl) (by kernel_rfl) (by kernel_rfl) (fun _ _ _ h => h) (by rfl) ?h8 hHeld ?r8
    case h8 => (intro w hSw; (try dsimp only at hSw); go_simp; try (with_reducible rfl))
    simp only [Act.put, List.setIfInBounds_toArray, List.set_cons_zero, List.set_cons_succ]
    refine anyH_take 2 52 (v := ?v9) rfl rfl (by kernel_rfl) (by kernel_rfl) (by kernel_rfl) (fun _ _ _ h => h) (by rfl) ?h9 hHeld ?r9
    case h9 => (intro w hSw; (try dsimp only at hSw); go_simp; try (with_reducible rfl))
    simp only [Act.put, List.setIfInBounds_toArray, List.set_cons_zero, List.set_cons_succ]
    refine anyH_take 3 53 (v := ?v10) rfl rfl (by kernel_rfl) (by kernel_rfl) (by kernel_rfl) (fun _ _ _ h => h) (by rfl) ?h10 hHeld ?r10
    case h10 => (intro w hSw; (try dsimp only at hSw); go_simp; try (with_reducible rfl))
    simp only [Act.put, List.setIfInBounds_toArray, List.set_cons_zero, List.set_cons_succ]
    refine anyH_take 4 54 (v := ?v11) rfl rfl (by kernel_rfl) (by kernel_rfl) (by kernel_rfl) (fun _ _ _ h => h) (by rfl) ?h11 hHeld ?r11
    case h11 => (intro w hSw; (try dsimp only at hSw); go_simp; try (with_reducible rfl))
    simp only [Act.put, List.setIfInBounds_toArray, List.set_cons_zero, List.set_cons_succ]
    refine wpAnyH_ready (rs := [5]) (by kernel_rfl) (by simp) ?_
    refine AllReadyH.cons rfl (fun K hK => ?_) AllReadyH.nil
    go_simp
    refine hK.out _ _ (unhide SK8 _ (Below.heap_setCell _ _ _ _ hobx)) (fun hHeld => ?_)
    clear hK K
    refine anyH_take 6 55 (v := ?v12) rfl rfl (by kernel_rfl) (by kernel_rfl) (by kernel_rfl) (fun _ _ _ h => h) (by rfl) ?h12 hHeld ?r12
    case h12 => (intro w hSw; (try dsimp only at hSw); go_simp; try (with_reducible rfl))
    simp only [Act.put, List.setIfInBounds_toArray, List.set_cons_zero, List.set_cons_succ]
    refine wpAnyH_ready (rs := [7]) (by kernel_rfl) (by simp) ?_
    refine AllReadyH.cons rfl (fun K hK => ?_) AllReadyH.nil
    go_simp
    refine hK.out _ _ (unhide SK8 _ ((Below.heap_setCell _ _ _ _ hobx).trans (Below.heap_setCell _ _ _ _ hobx))) (fun hHeld => ?_)
    clear hK K
    refine wpAnyH_done (by kernel_rfl) ?_ _
    have W1 : WrB (fun i => i = xb) X0 ((X0.setCell ⟨xb, 1, none⟩ (.string Dhi)).setCell ⟨xb, 2, none⟩ (.int .i64 Dr)).drew := ⟨rfl, rfl, rfl, (by show X0.heap.size ≤ ((X0.setCell ⟨xb, 1, none⟩ (.string Dhi)).setCell ⟨xb, 2, none⟩ (.int .i64 Dr)).heap.size; simp [World.setCell]), fun k _ hk => (Below.heap_setCell _ _ _ _ hk).trans (Below.heap_setCell _ _ _ _ hk)⟩
    have kX1 : ((X0.setCell ⟨xb, 1, none⟩ (.string Dhi)).setCell ⟨xb, 2, none⟩ (.int .i64 Dr)).drew.heap[xb]? = some (.cells #[.string Clo, .string Dhi, .int .i64 Dr, .slice aE nE kE, .slice none 0 0] 51 (0, 0)) := by
      have h2 : ((X0.setCell ⟨xb, 1, none⟩ (.string Dhi)).setCell ⟨xb, 2, none⟩ (.int .i64 Dr)).heap[xb]? = some (.cells #[.string Clo, .string Dhi, .int .i64 Dr, .slice aE nE kE, .slice none 0 0] 51 (0, 0)) := by
        have := heap_set (heap_set kX 1 (.string Dhi)) 2 (.int .i64 Dr)
        simpa using this
      exact h2
    have kY1 := (W1.block ob (blk_lt kY) (fun h => hobx h)).trans kY
    have kG1 := (W1.block (xb + 1) (blk_lt kG) (fun h => by omega)).trans kG
    have notx : ∀ {C s n : Nat} {v : Value} {cs : List Value}, X0.ownsRow C 37 s v n cs → ∀ i, v.ownBlock = some i → ¬ i = xb := fun h i hi e => by
      obtain ⟨cur, hcur⟩ := own_kind h hi
      rw [e, kX] at hcur
      injection hcur with hcur
      injection hcur with _ hcur _
      exact absurd hcur (by decide)
    have oE1 := rr_owns_wr oE W1 (notx oE)
    have oD1 := rr_owns_wr oX W1 (notx oX)
    have B1 : Below w.heap.size w ((X0.setCell ⟨xb, 1, none⟩ (.string Dhi)).setCell ⟨xb, 2, none⟩ (.int .i64 Dr)).drew := B0.trans (WrB.below W1 (fun i e => by omega) B0.size)
    clear W1 kX kY kG oE oX notx B0 SK8
    generalize ((X0.setCell ⟨xb, 1, none⟩ (.string Dhi)).setCell ⟨xb, 2, none⟩ (.int .i64 Dr)).drew = X1 at *
    obtain ⟨u0, u1, u2, u3, u4⟩ := pg_cells5 kX1
    obtain ⟨v0, v1, v2, v3, v4⟩ := pg_cells5 kY1
    have HCc := hide (fun (W : World) (hW : Below X1.heap.size X1 W) (h0 : W.cell? ⟨X1.heap.size, 0, none⟩ = some (.slice aE nE kE)) (h1 : W.cell? ⟨X1.heap.size, 1, none⟩ = some (.slice aD nD kD)) => concatE2 X1.heap.size aE nE kE Ces aD nD kD Des W h0 h1 ((erow_of_owns oE1).below hW) ((erow_of_owns oD1).below hW) (rowK_own (B := B) oE1).2 (rowK_own (B := B) oD1).2 (by omega) (by omega))
    go_wp2_with fail
    refine (unhide HCc _ ((Below.refl _ _).alloc (Nat.le_refl _) _) (by simp) (by simp)).mono ?_
    rintro e w7 ⟨v7, rfl, o7, b7⟩
    obtain ⟨a7, n7, k7, hv7⟩ : ∃ a n c, v7 = .slice a n c := by
      rcases o7.2 with ⟨e, _⟩ | ⟨_, _, _, e, _⟩
      · exact ⟨_, _, _, e⟩
      · exact ⟨_, _, _, e⟩
    subst hv7
    have bc7 : Below X1.heap.size X1 w7 := ((Below.refl _ _).alloc (Nat.le_refl _) _).trans (b7.mono (by simp))
    have kX7 := (bc7.block xb (blk_lt kX1)).trans kX1
    have kG7 := (bc7.block (xb + 1) (blk_lt kG1)).trans kG1
    have B7 := B1.trans (bc7.mono B1.size)
    have W2 : WrB (fun i => i = xb) w7 (w7.setCell ⟨xb, 3, none⟩ (.slice a7 n7 k7)) := ⟨rfl, rfl, rfl, by simp [World.setCell], fun k _ hk => Below.heap_setCell _ _ _ _ hk⟩
    have kX2 : (w7.setCell ⟨xb, 3, none⟩ (.slice a7 n7 k7)).heap[xb]? = some (.cells #[.string Clo, .string Dhi, .int .i64 Dr, .slice a7 n7 k7, .slice none 0 0] 51 (0, 0)) := by
      have := heap_set kX7 3 (.slice a7 n7 k7)
      simpa using this
    have B2 : Below w.heap.size w (w7.setCell ⟨xb, 3, none⟩ (.slice a7 n7 k7)) := B7.trans (WrB.below W2 (fun i e => by omega) B7.size)
    have kG2 := (W2.block (xb + 1) (blk_lt kG7) (fun h => by omega)).trans kG7
    have rM : PgRows (w7.setCell ⟨xb, 3, none⟩ (.slice a7 n7 k7)) B ⟨⟨Clo, Dhi, Dr, Ces ++ Des, []⟩, ⟨a7, n7, k7⟩, ⟨none, 0, 0⟩⟩ := (con_rows (B := B) (X := ⟨Clo, Dhi, Dr, Ces ++ Des, []⟩) o7 rfl).wr_box W2 (by omega) kX7 (by decide) (by decide)
    have F2 := (unhide F).below B2
    obtain ⟨gp2, c2, hvp2, hcell2, hfz2, F3, W3, hne3⟩ := F2.setP hid (some (xb, ⟨⟨Clo, Dhi, Dr, Ces ++ Des, []⟩, ⟨a7, n7, k7⟩, ⟨none, 0, 0⟩⟩)) (fun b x e => by injection e with e; injection e with e1 e2; subst e1 e2; exact ⟨⟨by omega, kX2⟩, rM⟩)
    have e7 := hvp2
    rw [unhide HVP] at e7
    injection e7 with e71 _ e73
    injection e71 with e71
    injection e71 with e71 _ _
    subst e71 e73
    have t2 := (heap_at F2.own.box 0).1
    rw [hvp2] at t2
    rw [unhide QE] at hcell2
    unfold ptrQ at hcell2 F3 W3
    simp only [Option.map_some] at hcell2 F3 W3
    obtain ⟨c73, c74⟩ := (heap_at kX7 3)
    have HF2 := hide F2
    have HF3 := hide F3
    have HW3 := hide ((WrB.of_below B2).seq W3)
    have KG3 := hide ((W3.block (xb + 1) (blk_lt kG2) (fun h => by have := unhide TW _ h; omega)).trans kG2)
    clear HCc o7 b7 bc7 kX7 kG7 B7 W2 kX2 B2 kG2 rM F2 F3 W3 u0 u1 u2 u3 u4 v0 v1 v2 v3 v4 kX1 kY1 kG1 oE1 oD1 B1
    go_upto_region 11 with fail
    generalize (w7.setCell ⟨xb, 3, none⟩ (.slice a7 n7 k7)).setCell ⟨gp, id, none⟩ (.pointer (some ⟨xb, 0, none⟩)) = X3 at *
    have n1' : X3.cell? ⟨mb, 0, none⟩ = some (.slice (some ⟨gp, 0, none⟩) qs.length c) := by
      have h := (heap_at (unhide HF3).own.box 0).1
      rw [unhide HVP] at h
      exact h
    have n2' : X3.cell? ⟨xb + 1, 0, none⟩ = some (.int .i64 (j : Int)) := (heap_at (unhide KG3) 0).1
    obtain ⟨gp4, c4, hvp4, hcell4, hfz4, F4', W4', hne4⟩ := (unhide HF3).setP (id := j) (by rw [List.length_set]; exact hjd) none (fun b x e => by cases e)
    have e7 := hvp4
    rw [unhide HVP, List.length_set] at e7
    injection e7 with e71 _ e73
    injection e71 with e71
    injection e71 with e71 _ _
    subst e71 e73
    unfold ptrQ at F4' W4' hcell4
    simp only [Option.map_none] at F4' W4'
    have bd : Below (X3.setCell ⟨gp, j, none⟩ (.pointer none)).heap.size (X3.setCell ⟨gp, j, none⟩ (.pointer none)) (X3.setCell ⟨gp, j, none⟩ (.pointer none)).drew := (Below.refl _ _).drew
    have F4 := hide (F4'.below bd)
    have W4 := hide (((unhide HW3).seq W4').seq (WrB.of_below bd))
    have KG4 := hide (show (X3.setCell ⟨gp, j, none⟩ (.pointer none)).drew.heap[xb + 1]? = some (.cells #[.int .i64 (j : Int)] 3 (0, 0)) from (W4'.block (xb + 1) (blk_lt (unhide KG3)) (fun h => by have := unhide TW _ h; omega)).trans (unhide KG3))
    obtain ⟨_, _, ai, ci, _, hvi, _⟩ := (unhide F4).table
    have HVI := hide hvi
    have t4 : (X3.setCell ⟨gp, j, none⟩ (.pointer none)).drew.cell? ⟨mb, 1, none⟩ = some (.slice ai idx.length ci) := by
      have h := (heap_at (unhide F4).own.box 1).1
      rw [hvi] at h
      exact h
    have hix := (unhide F4).own.ix
    rw [hvi] at hix
    have HDF := hide (deleteGone_any B (xb + 1) ai idx.length ci idx (j : Int) _ (by omega) hix ((heap_at (unhide KG4) 0).1) (Nat.le_trans hB ((unhide W4).size)) (fun e => by
      have := unhide TW (xb + 1) (.inr (.inr (by rw [hvi]; exact e)))
      omega))
    have SK11 := hide (show (fun u : World => (u.cell? ⟨mb, 0, none⟩ = some (.slice (some ⟨gp, 0, none⟩) qs.length c) ∧ u.cell? ⟨xb + 1, 0, none⟩ = some (.int .i64 (j : Int)))) (X3.setCell ⟨gp, j, none⟩ (.pointer none)).drew from ⟨by
        have h := (heap_at (unhide F4).own.box 0).1
        rw [unhide HVP] at h
        exact h, (heap_at (unhide KG4) 0).1⟩)
    clear hvi hix F4' W4' bd HF3 HF2 HW3 KG3
    obtain ⟨pv, hpv⟩ : ∃ pv, X3.cell? ⟨gp, j, none⟩ = some (Value.pointer pv) := ⟨_, hcell4⟩
    have hfz5 : X3.frozen? ⟨gp, j, none⟩ = false := hfz4
    clear hcell4 hfz4
    refine wp_region_held_drew (S := (fun u => (u.cell? ⟨mb, 0, none⟩ = some (.slice (some ⟨gp, 0, none⟩) qs.length c) ∧ u.cell? ⟨xb + 1, 0, none⟩ = some (.int .i64 (j : Int))))) (by kernel_rfl) (⟨n1', n2'⟩) (fun hHeld => ?_)
    refine anyH_take 0 69 (v := ?v1) rfl rfl (by kernel_rfl) (by kernel_rfl) (by kernel_rfl) (fun _ _ _ h => h) (by rfl) ?h1 hHeld ?r1
    case h1 => (intro w hSw; (try dsimp only at hSw); go_simp; try (with_reducible rfl))
    simp only [Act.put, List.setIfInBounds_toArray, List.set_cons_zero, List.set_cons_succ]
    refine anyH_take 1 70 (v := ?v2) rfl rfl (by kernel_rfl) (by kernel_rfl) (by kernel_rfl) (fun _ _ _ h => h) (by rfl) ?h2 hHeld ?r2
    case h2 => (intro w hSw; (try dsimp only at hSw); go_simp; try (with_reducible rfl))
    simp only [Act.put, List.setIfInBounds_toArray, List.set_cons_zero, List.set_cons_succ]
    refine anyH_take 2 71 (v := ?v3) rfl rfl (by kernel_rfl) (by kernel_rfl) (by kernel_rfl) (fun _ _ _ h => h) (by rfl) ?h3 hHeld ?r3
    case h3 => (intro w hSw; (try dsimp only at hSw); go_simp; try (with_reducible rfl))
    simp only [Act.put, List.setIfInBounds_toArray, List.set_cons_zero, List.set_cons_succ]
    refine anyH_take 3 72 (v := ?v4) rfl rfl (by kernel_rfl) (by kernel_rfl) (by kernel_rfl) (fun _ _ _ h => h) (by rfl) ?h4 hHeld ?r4
    case h4 => (intro w hSw; (try dsimp only at hSw); go_simp; try (with_reducible rfl))
    simp only [Act.put, List.setIfInBounds_toArray, List.set_cons_zero, List.set_cons_succ]
    refine anyH_take 4 73 (v := ?v5) rfl rfl (by kernel_rfl) (by kernel_rfl) (by kernel_rfl) (fun _ _ _ h => h) (by rfl) ?h5 hHeld ?r5
    case h5 => (intro w hSw; (try dsimp only at hSw); go_simp; try (with_reducible rfl))
    simp only [Act.put, List.setIfInBounds_toArray, List.set_cons_zero, List.set_cons_succ]
    refine anyH_take 5 74 (v := ?v6) rfl rfl (by kernel_rfl) (by kernel_rfl) (by kernel_rfl) (fun _ _ _ h => h) (by rfl) ?h6 hHeld ?r6
    case h6 => (intro w hSw; (try dsimp only at hSw); go_simp; try (with_reducible rfl))
    simp only [Act.put, List.setIfInBounds_toArray, List.set_cons_zero, List.set_cons_succ]
    refine wpAnyH_ready (rs := [6]) (by kernel_rfl) (by simp) ?_
    refine AllReadyH.cons rfl (fun K hK => ?_) AllReadyH.nil
    go_simp
    refine hK.out _ _ (unhide SK11) (fun hHeld => ?_)
    clear hK K
    refine wpAnyH_done (by kernel_rfl) ?_ _
    generalize (X3.setCell ⟨gp, j, none⟩ (.pointer none)).drew = X4 at *
    clear SK11 n1' n2'
    go_wp2_with fail
    refine (unhide HDF).mono ?_
    rintro e w8 ⟨v8, rfl, o8, hg8⟩
    rw [show (Value.slice ai idx.length ci).ownBlock = vi.ownBlock by rw [unhide HVI]] at hg8
    obtain ⟨F5, W5, k5⟩ := (unhide F4).index hg8 o8
    have e1 := (heap_at k5 1).1
    have e2 := (heap_at k5 1).2
    have kg5 : (w8.setCell ⟨mb, 1, none⟩ v8).heap[xb + 1]? = some (.cells #[.int .i64 (j : Int)] 3 (0, 0)) := (W5.block (xb + 1) (blk_lt (unhide KG4)) (fun h => by have := unhide TW _ h; omega)).trans (unhide KG4)
    have g5 := (heap_at kg5 0).1
    have RES := hide (show TbRs B mb vp vi (merT (qsP qs) idx id X) w (.returned (.tuple #[.int .i64 (j : Int), .int .i64 0])) (w8.setCell ⟨mb, 1, none⟩ v8) by
      rw [unhide MT2]
      exact ⟨_, vp, v8, rfl, F5, (by rw [qsP_set, qsP_set]; rfl), (unhide W4).seq W5⟩)
    obtain ⟨a8, n8, c8, hv8⟩ : ∃ a n c, v8 = .slice a n c := by
      rcases o8.2 with ⟨e, _⟩ | ⟨_, _, _, e, _⟩
      · exact ⟨_, _, _, e⟩
      · exact ⟨_, _, _, e⟩
    subst hv8
    clear F5 W5 k5 hg8 o8 F4 HDF W4 KG4 kg5
    go_wp2_with fail
    go_ret2
    exact unhide RES
  · go_simp
    refine hK.out _ _ (unhide SK _ ((Below.refl V.heap.size V).drew.alloc (Nat.le_refl _) _)) (fun hHeld => ?_)
    clear hK K
    refine wpAnyH_ready (rs := [9]) (by kernel_rfl) (by simp) ?_
    refine AllReadyH.cons rfl (fun K hK => ?_) AllReadyH.nil
    go_simp
    refine (unhide HX _ ((Below.refl V.heap.size V).drew.alloc (Nat.le_refl _) _)).mono ?_
    rintro e w6 ⟨aD, nD, kD, rfl, oD, b6⟩
    refine hK.out _ _ (unhide SK _ (((Below.refl V.heap.size V).drew.alloc (Nat.le_refl _) _).trans (b6.mono (by simp)))) (fun hHeld => ?_)
    clear hK K
    refine anyH_take 10 29 (v := ?v26) rfl rfl (by kernel_rfl) (by kernel_rfl) (by kernel_rfl) (fun _ _ _ h => h) (by rfl) ?h26 hHeld ?r26
    case h26 => (intro w hSw; (try dsimp only at hSw); go_simp; try (with_reducible rfl))
    simp only [Act.put, List.setIfInBounds_toArray, List.set_cons_zero, List.set_cons_succ]
    refine anyH_take 11 40 (v := ?v27) rfl rfl (by kernel_rfl) (by kernel_rfl) (by kernel_rfl) (fun _ _ _ h => h) (by rfl) ?h27 hHeld ?r27
    case h27 => (intro w hSw; (try dsimp only at hSw); go_simp; try (with_reducible rfl))
    simp only [Act.put, List.setIfInBounds_toArray, List.set_cons_zero, List.set_cons_succ]
    refine anyH_take 12 41 (v := ?v28) rfl rfl (by kernel_rfl) (by kernel_rfl) (by kernel_rfl) (fun _ _ _ h => h) (by rfl) ?h28 hHeld ?r28
    case h28 => (intro w hSw; (try dsimp only at hSw); go_simp; try (with_reducible rfl))
    simp only [Act.put, List.setIfInBounds_toArray, List.set_cons_zero, List.set_cons_succ]
    refine wpAnyH_ready (rs := [14]) (by kernel_rfl) (by simp) ?_
    refine AllReadyH.cons rfl (fun K hK => ?_) AllReadyH.nil
    have k8 := (b6.block V.heap.size (by simp)).trans (heap_alloc_new V.drew (.cells #[.string ⟨#[]⟩, .string ⟨#[]⟩, .int .i64 0, .slice none 0 0, .slice none 0 0] 51))
    obtain ⟨o0, o1, o2, o3, o4⟩ := pg_cells5 k8
    obtain ⟨p0, p1, p2, p3, p4⟩ := fz_cells k8
    go_simp
    refine hK.out _ _ (unhide SK _ (((((((((Below.refl V.heap.size V).drew.alloc (Nat.le_refl _) _).trans (b6.mono (by simp)))).setCell (p := ⟨V.heap.size, 0, none⟩) (Nat.le_refl _) _).setCell (p := ⟨V.heap.size, 1, none⟩) (Nat.le_refl _) _).setCell (p := ⟨V.heap.size, 2, none⟩) (Nat.le_refl _) _).setCell (p := ⟨V.heap.size, 3, none⟩) (Nat.le_refl _) _).setCell (p := ⟨V.heap.size, 4, none⟩) (Nat.le_refl _) _)) (fun hHeld => ?_)
    clear hK K
    refine anyH_take 15 10 (v := ?v29) rfl rfl (by kernel_rfl) (by kernel_rfl) (by kernel_rfl) (fun _ _ _ h => h) (by rfl) ?h29 hHeld ?r29
    case h29 => (intro w hSw; (try dsimp only at hSw); go_simp; try (with_reducible rfl))
    simp only [Act.put, List.setIfInBounds_toArray, List.set_cons_zero, List.set_cons_succ]
    refine wpAnyH_done (by kernel_rfl) ?_ _
    have bX : Below V.heap.size V (((((w6.setCell ⟨V.heap.size, 0, none⟩ (.string Dlo)).setCell ⟨V.heap.size, 1, none⟩ (.string Dhi)).setCell ⟨V.heap.size, 2, none⟩ (.int .i64 Dr)).setCell ⟨V.heap.size, 3, none⟩ (.slice aD nD kD)).setCell ⟨V.heap.size, 4, none⟩ (.slice none 0 0)) := ((((((((Below.refl V.heap.size V).drew.alloc (Nat.le_refl _) _).trans (b6.mono (by simp)))).setCell (p := ⟨V.heap.size, 0, none⟩) (Nat.le_refl _) _).setCell (p := ⟨V.heap.size, 1, none⟩) (Nat.le_refl _) _).setCell (p := ⟨V.heap.size, 2, none⟩) (Nat.le_refl _) _).setCell (p := ⟨V.heap.size, 3, none⟩) (Nat.le_refl _) _).setCell (p := ⟨V.heap.size, 4, none⟩) (Nat.le_refl _) _
    have kY : (((((w6.setCell ⟨V.heap.size, 0, none⟩ (.string Dlo)).setCell ⟨V.heap.size, 1, none⟩ (.string Dhi)).setCell ⟨V.heap.size, 2, none⟩ (.int .i64 Dr)).setCell ⟨V.heap.size, 3, none⟩ (.slice aD nD kD)).setCell ⟨V.heap.size, 4, none⟩ (.slice none 0 0)).heap[V.heap.size]? = some (.cells #[.string Dlo, .string Dhi, .int .i64 Dr, .slice aD nD kD, .slice none 0 0] 51 (0, 0)) := set5_heap k8 _ _ _ _ _
    have oX : EOwns (((((w6.setCell ⟨V.heap.size, 0, none⟩ (.string Dlo)).setCell ⟨V.heap.size, 1, none⟩ (.string Dhi)).setCell ⟨V.heap.size, 2, none⟩ (.int .i64 Dr)).setCell ⟨V.heap.size, 3, none⟩ (.slice aD nD kD)).setCell ⟨V.heap.size, 4, none⟩ (.slice none 0 0)) V.heap.size (.slice aD nD kD) Des := gd_base (set5_owns (b := V.heap.size) oD (by simp) _ _ _ _ _) (by simp)
    have zX : V.heap.size ≤ V.heap.size := Nat.le_refl _
    clear o0 o1 o2 o3 o4 p0 p1 p2 p3 p4 k8
    clear oD b6
    generalize (((((w6.setCell ⟨V.heap.size, 0, none⟩ (.string Dlo)).setCell ⟨V.heap.size, 1, none⟩ (.string Dhi)).setCell ⟨V.heap.size, 2, none⟩ (.int .i64 Dr)).setCell ⟨V.heap.size, 3, none⟩ (.slice aD nD kD)).setCell ⟨V.heap.size, 4, none⟩ (.slice none 0 0)) = X0 at *
    obtain ⟨ob, hob⟩ : ∃ ob, ob = V.heap.size := ⟨_, rfl⟩
    rw [← hob] at kY ⊢
    have zX := Nat.le_of_eq hob.symm
    clear hob
    clear HX SK
    have HND := hide (show nD = Des.length by
      obtain ⟨_, _, hvD, _⟩ := eowns_slice oX
      injection hvD)
    have hd32 : nD ≤ 32 := by rw [unhide HND]; exact hen2
    have hxV : xb < V.heap.size := by omega
    have kX := (bX.block xb hxV).trans (unhide KX)
    have kG := (bX.block (xb + 1) ze).trans (unhide KG)
    have oE := rb_ownsRow_below (unhide OE4) bX
    have B0 := (unhide BW4).trans (bX.mono (unhide BW4).size)
    have hobx : ob ≠ xb := by omega
    obtain ⟨u0, u1, u2, u3, u4⟩ := pg_cells5 kX
    obtain ⟨v0, v1, v2, v3, v4⟩ := pg_cells5 kY
    by_cases hbig : 32 < nE + nD
    · have RES := hide (show TbRs B mb vp vi (merT (qsP qs) idx id X) w (.returned (.tuple #[.int .i64 0, .int .i64 7])) X0 by
        rw [unhide MT, if_pos (by rw [← (unhide CE).1, ← (unhide DE).1, ← unhide HNE, ← unhide HND]; exact hbig)]
        exact unhide NOP _ B0 ⟨qsP qs, idx, 0, 7⟩ rfl rfl)
      have hbig' : (32 : Int) < (nE : Int) + (nD : Int) := by omega
      clear MT NOP
      go_wp2_with fail
      go_ret2
      exact unhide RES
    have MT2 := hide (show merT (qsP qs) idx id X = ⟨((qsP qs).set id (some ⟨Clo, Dhi, Dr, Ces ++ Des, []⟩)).set j none, idx.filter (notId (j : Int)), (j : Int), 0⟩ by
      rw [unhide MT, if_neg (by rw [← (unhide CE).1, ← (unhide DE).1, ← unhide HNE, ← unhide HND]; exact hbig)]
      unfold merPg
      rw [← (unhide CE).1, ← (unhide DE).1, ← (unhide CE).2.1, ← (unhide DE).2.1, ← (unhide DE).2.2])
    have hbig' : ¬ ((32 : Int) < (nE : Int) + (nD : Int)) := by omega
    clear MT
    go_upto_region 8 with fail
    have SK8 := hide (show ∀ u : World, u.heap[ob]? = X0.heap[ob]? → (u.cell? ⟨ob, 1, none⟩ = some (.string Dhi) ∧ u.cell? ⟨ob, 2, none⟩ = some (.int .i64 Dr)) from fun u hu => ⟨(World.cell?_of_block (a := ⟨ob, 1, none⟩) hu).trans v1, (World.cell?_of_block (a := ⟨ob, 2, none⟩) hu).trans v2⟩)
    obtain ⟨f0, f1, f2, f3, f4⟩ := fz_cells kX
    refine wp_region_held_drew (S := (fun u => (u.cell? ⟨ob, 1, none⟩ = some (.string Dhi) ∧ u.cell? ⟨ob, 2, none⟩ = some (.int .i64 Dr)))) (by kernel_rfl) (⟨v1, v2⟩) (fun hHeld => ?_)
    refine anyH_take 0 50 (v := ?v1007) rfl rfl (by kernel_rfl) (by kernel_rfl) (by kernel_rfl) (fun _ _ _ h => h) (by rfl) ?h1007 hHeld ?r1007
    case h1007 => (intro w hSw; (try dsimp only at hSw); go_simp; try (with_reducible rfl))
    simp only [Act.put, List.setIfInBounds_toArray, List.set_cons_zero, List.set_cons_succ]
    refine anyH_take 1 51 (v := ?v1008) rfl rfl (by kernel_rfl) (by kernel_rfl) (by kernel_rfl) (fun _ _ _ h => h) (by rfl) ?h1008 hHeld ?r1008
    case h1008 => (intro w hSw; (try dsimp only at hSw); go_simp; try (with_reducible rfl))
    simp only [Act.put, List.setIfInBounds_toArray, List.set_cons_zero, List.set_cons_succ]
    refine anyH_take 2 52 (v := ?v1009) rfl rfl (by kernel_rfl) (by kernel_rfl) (by kernel_rfl) (fun _ _ _ h => h) (by rfl) ?h1009 hHeld ?r1009
    case h1009 => (intro w hSw; (try dsimp only at hSw); go_simp; try (with_reducible rfl))
    simp only [Act.put, List.setIfInBounds_toArray, List.set_cons_zero, List.set_cons_succ]
    refine anyH_take 3 53 (v := ?v1010) rfl rfl (by kernel_rfl) (by kernel_rfl) (by kernel_rfl) (fun _ _ _ h => h) (by rfl) ?h1010 hHeld ?r1010
    case h1010 => (intro w hSw; (try dsimp only at hSw); go_simp; try (with_reducible rfl))
    simp only [Act.put, List.setIfInBounds_toArray, List.set_cons_zero, List.set_cons_succ]
    refine anyH_take 4 54 (v := ?v1011) rfl rfl (by kernel_rfl) (by kernel_rfl) (by kernel_rfl) (fun _ _ _ h => h) (by rfl) ?h1011 hHeld ?r1011
    case h1011 => (intro w hSw; (try dsimp only at hSw); go_simp; try (with_reducible rfl))
    simp only [Act.put, List.setIfInBounds_toArray, List.set_cons_zero, List.set_cons_succ]
    refine wpAnyH_ready (rs := [5]) (by kernel_rfl) (by simp) ?_
    refine AllReadyH.cons rfl (fun K hK => ?_) AllReadyH.nil
    go_simp
    refine hK.out _ _ (unhide SK8 _ (Below.heap_setCell _ _ _ _ hobx)) (fun hHeld => ?_)
    clear hK K
    refine anyH_take 6 55 (v := ?v1012) rfl rfl (by kernel_rfl) (by kernel_rfl) (by kernel_rfl) (fun _ _ _ h => h) (by rfl) ?h1012 hHeld ?r1012
    case h1012 => (intro w hSw; (try dsimp only at hSw); go_simp; try (with_reducible rfl))
    simp only [Act.put, List.setIfInBounds_toArray, List.set_cons_zero, List.set_cons_succ]
    refine wpAnyH_ready (rs := [7]) (by kernel_rfl) (by simp) ?_
    refine AllReadyH.cons rfl (fun K hK => ?_) AllReadyH.nil
    go_simp
    refine hK.out _ _ (unhide SK8 _ ((Below.heap_setCell _ _ _ _ hobx).trans (Below.heap_setCell _ _ _ _ hobx))) (fun hHeld => ?_)
    clear hK K
    refine wpAnyH_done (by kernel_rfl) ?_ _
    have W1 : WrB (fun i => i = xb) X0 ((X0.setCell ⟨xb, 1, none⟩ (.string Dhi)).setCell ⟨xb, 2, none⟩ (.int .i64 Dr)).drew := ⟨rfl, rfl, rfl, (by show X0.heap.size ≤ ((X0.setCell ⟨xb, 1, none⟩ (.string Dhi)).setCell ⟨xb, 2, none⟩ (.int .i64 Dr)).heap.size; simp [World.setCell]), fun k _ hk => (Below.heap_setCell _ _ _ _ hk).trans (Below.heap_setCell _ _ _ _ hk)⟩
    have kX1 : ((X0.setCell ⟨xb, 1, none⟩ (.string Dhi)).setCell ⟨xb, 2, none⟩ (.int .i64 Dr)).drew.heap[xb]? = some (.cells #[.string Clo, .string Dhi, .int .i64 Dr, .slice aE nE kE, .slice none 0 0] 51 (0, 0)) := by
      have h2 : ((X0.setCell ⟨xb, 1, none⟩ (.string Dhi)).setCell ⟨xb, 2, none⟩ (.int .i64 Dr)).heap[xb]? = some (.cells #[.string Clo, .string Dhi, .int .i64 Dr, .slice aE nE kE, .slice none 0 0] 51 (0, 0)) := by
        have := heap_set (heap_set kX 1 (.string Dhi)) 2 (.int .i64 Dr)
        simpa using this
      exact h2
    have kY1 := (W1.block ob (blk_lt kY) (fun h => hobx h)).trans kY
    have kG1 := (W1.block (xb + 1) (blk_lt kG) (fun h => by omega)).trans kG
    have notx : ∀ {C s n : Nat} {v : Value} {cs : List Value}, X0.ownsRow C 37 s v n cs → ∀ i, v.ownBlock = some i → ¬ i = xb := fun h i hi e => by
      obtain ⟨cur, hcur⟩ := own_kind h hi
      rw [e, kX] at hcur
      injection hcur with hcur
      injection hcur with _ hcur _
      exact absurd hcur (by decide)
    have oE1 := rr_owns_wr oE W1 (notx oE)
    have oD1 := rr_owns_wr oX W1 (notx oX)
    have B1 : Below w.heap.size w ((X0.setCell ⟨xb, 1, none⟩ (.string Dhi)).setCell ⟨xb, 2, none⟩ (.int .i64 Dr)).drew := B0.trans (WrB.below W1 (fun i e => by omega) B0.size)
    clear W1 kX kY kG oE oX notx B0 SK8
    generalize ((X0.setCell ⟨xb, 1, none⟩ (.string Dhi)).setCell ⟨xb, 2, none⟩ (.int .i64 Dr)).drew = X1 at *
    obtain ⟨u0, u1, u2, u3, u4⟩ := pg_cells5 kX1
    obtain ⟨v0, v1, v2, v3, v4⟩ := pg_cells5 kY1
    have HCc := hide (fun (W : World) (hW : Below X1.heap.size X1 W) (h0 : W.cell? ⟨X1.heap.size, 0, none⟩ = some (.slice aE nE kE)) (h1 : W.cell? ⟨X1.heap.size, 1, none⟩ = some (.slice aD nD kD)) => concatE2 X1.heap.size aE nE kE Ces aD nD kD Des W h0 h1 ((erow_of_owns oE1).below hW) ((erow_of_owns oD1).below hW) (rowK_own (B := B) oE1).2 (rowK_own (B := B) oD1).2 (by omega) (by omega))
    go_wp2_with fail
    refine (unhide HCc _ ((Below.refl _ _).alloc (Nat.le_refl _) _) (by simp) (by simp)).mono ?_
    rintro e w7 ⟨v7, rfl, o7, b7⟩
    obtain ⟨a7, n7, k7, hv7⟩ : ∃ a n c, v7 = .slice a n c := by
      rcases o7.2 with ⟨e, _⟩ | ⟨_, _, _, e, _⟩
      · exact ⟨_, _, _, e⟩
      · exact ⟨_, _, _, e⟩
    subst hv7
    have bc7 : Below X1.heap.size X1 w7 := ((Below.refl _ _).alloc (Nat.le_refl _) _).trans (b7.mono (by simp))
    have kX7 := (bc7.block xb (blk_lt kX1)).trans kX1
    have kG7 := (bc7.block (xb + 1) (blk_lt kG1)).trans kG1
    have B7 := B1.trans (bc7.mono B1.size)
    have W2 : WrB (fun i => i = xb) w7 (w7.setCell ⟨xb, 3, none⟩ (.slice a7 n7 k7)) := ⟨rfl, rfl, rfl, by simp [World.setCell], fun k _ hk => Below.heap_setCell _ _ _ _ hk⟩
    have kX2 : (w7.setCell ⟨xb, 3, none⟩ (.slice a7 n7 k7)).heap[xb]? = some (.cells #[.string Clo, .string Dhi, .int .i64 Dr, .slice a7 n7 k7, .slice none 0 0] 51 (0, 0)) := by
      have := heap_set kX7 3 (.slice a7 n7 k7)
      simpa using this
    have B2 : Below w.heap.size w (w7.setCell ⟨xb, 3, none⟩ (.slice a7 n7 k7)) := B7.trans (WrB.below W2 (fun i e => by omega) B7.size)
    have kG2 := (W2.block (xb + 1) (blk_lt kG7) (fun h => by omega)).trans kG7
    have rM : PgRows (w7.setCell ⟨xb, 3, none⟩ (.slice a7 n7 k7)) B ⟨⟨Clo, Dhi, Dr, Ces ++ Des, []⟩, ⟨a7, n7, k7⟩, ⟨none, 0, 0⟩⟩ := (con_rows (B := B) (X := ⟨Clo, Dhi, Dr, Ces ++ Des, []⟩) o7 rfl).wr_box W2 (by omega) kX7 (by decide) (by decide)
    have F2 := (unhide F).below B2
    obtain ⟨gp2, c2, hvp2, hcell2, hfz2, F3, W3, hne3⟩ := F2.setP hid (some (xb, ⟨⟨Clo, Dhi, Dr, Ces ++ Des, []⟩, ⟨a7, n7, k7⟩, ⟨none, 0, 0⟩⟩)) (fun b x e => by injection e with e; injection e with e1 e2; subst e1 e2; exact ⟨⟨by omega, kX2⟩, rM⟩)
    have e7 := hvp2
    rw [unhide HVP] at e7
    injection e7 with e71 _ e73
    injection e71 with e71
    injection e71 with e71 _ _
    subst e71 e73
    have t2 := (heap_at F2.own.box 0).1
    rw [hvp2] at t2
    rw [unhide QE] at hcell2
    unfold ptrQ at hcell2 F3 W3
    simp only [Option.map_some] at hcell2 F3 W3
    obtain ⟨c73, c74⟩ := (heap_at kX7 3)
    have HF2 := hide F2
    have HF3 := hide F3
    have HW3 := hide ((WrB.of_below B2).seq W3)
    have KG3 := hide ((W3.block (xb + 1) (blk_lt kG2) (fun h => by have := unhide TW _ h; omega)).trans kG2)
    clear HCc o7 b7 bc7 kX7 kG7 B7 W2 kX2 B2 kG2 rM F2 F3 W3 u0 u1 u2 u3 u4 v0 v1 v2 v3 v4 kX1 kY1 kG1 oE1 oD1 B1
    go_upto_region 11 with fail
    generalize (w7.setCell ⟨xb, 3, none⟩ (.slice a7 n7 k7)).setCell ⟨gp, id, none⟩ (.pointer (some ⟨xb, 0, none⟩)) = X3 at *
    have n1' : X3.cell? ⟨mb, 0, none⟩ = some (.slice (some ⟨gp, 0, none⟩) qs.length c) := by
      have h := (heap_at (unhide HF3).own.box 0).1
      rw [unhide HVP] at h
      exact h
    have n2' : X3.cell? ⟨xb + 1, 0, none⟩ = some (.int .i64 (j : Int)) := (heap_at (unhide KG3) 0).1
    obtain ⟨gp4, c4, hvp4, hcell4, hfz4, F4', W4', hne4⟩ := (unhide HF3).setP (id := j) (by rw [List.length_set]; exact hjd) none (fun b x e => by cases e)
    have e7 := hvp4
    rw [unhide HVP, List.length_set] at e7
    injection e7 with e71 _ e73
    injection e71 with e71
    injection e71 with e71 _ _
    subst e71 e73
    unfold ptrQ at F4' W4' hcell4
    simp only [Option.map_none] at F4' W4'
    have bd : Below (X3.setCell ⟨gp, j, none⟩ (.pointer none)).heap.size (X3.setCell ⟨gp, j, none⟩ (.pointer none)) (X3.setCell ⟨gp, j, none⟩ (.pointer none)).drew := (Below.refl _ _).drew
    have F4 := hide (F4'.below bd)
    have W4 := hide (((unhide HW3).seq W4').seq (WrB.of_below bd))
    have KG4 := hide (show (X3.setCell ⟨gp, j, none⟩ (.pointer none)).drew.heap[xb + 1]? = some (.cells #[.int .i64 (j : Int)] 3 (0, 0)) from (W4'.block (xb + 1) (blk_lt (unhide KG3)) (fun h => by have := unhide TW _ h; omega)).trans (unhide KG3))
    obtain ⟨_, _, ai, ci, _, hvi, _⟩ := (unhide F4).table
    have HVI := hide hvi
    have t4 : (X3.setCell ⟨gp, j, none⟩ (.pointer none)).drew.cell? ⟨mb, 1, none⟩ = some (.slice ai idx.length ci) := by
      have h := (heap_at (unhide F4).own.box 1).1
      rw [hvi] at h
      exact h
    have hix := (unhide F4).own.ix
    rw [hvi] at hix
    have HDF := hide (deleteGone_any B (xb + 1) ai idx.length ci idx (j : Int) _ (by omega) hix ((heap_at (unhide KG4) 0).1) (Nat.le_trans hB ((unhide W4).size)) (fun e => by
      have := unhide TW (xb + 1) (.inr (.inr (by rw [hvi]; exact e)))
      omega))
    have SK11 := hide (show (fun u : World => (u.cell? ⟨mb, 0, none⟩ = some (.slice (some ⟨gp, 0, none⟩) qs.length c) ∧ u.cell? ⟨xb + 1, 0, none⟩ = some (.int .i64 (j : Int)))) (X3.setCell ⟨gp, j, none⟩ (.pointer none)).drew from ⟨by
        have h := (heap_at (unhide F4).own.box 0).1
        rw [unhide HVP] at h
        exact h, (heap_at (unhide KG4) 0).1⟩)
    clear hvi hix F4' W4' bd HF3 HF2 HW3 KG3
    obtain ⟨pv, hpv⟩ : ∃ pv, X3.cell? ⟨gp, j, none⟩ = some (Value.pointer pv) := ⟨_, hcell4⟩
    have hfz5 : X3.frozen? ⟨gp, j, none⟩ = false := hfz4
    clear hcell4 hfz4
    refine wp_region_held_drew (S := (fun u => (u.cell? ⟨mb, 0, none⟩ = some (.slice (some ⟨gp, 0, none⟩) qs.length c) ∧ u.cell? ⟨xb + 1, 0, none⟩ = some (.int .i64 (j : Int))))) (by kernel_rfl) (⟨n1', n2'⟩) (fun hHeld => ?_)
    refine anyH_take 0 69 (v := ?v1001) rfl rfl (by kernel_rfl) (by kernel_rfl) (by kernel_rfl) (fun _ _ _ h => h) (by rfl) ?h1001 hHeld ?r1001
    case h1001 => (intro w hSw; (try dsimp only at hSw); go_simp; try (with_reducible rfl))
    simp only [Act.put, List.setIfInBounds_toArray, List.set_cons_zero, List.set_cons_succ]
    refine anyH_take 1 70 (v := ?v1002) rfl rfl (by kernel_rfl) (by kernel_rfl) (by kernel_rfl) (fun _ _ _ h => h) (by rfl) ?h1002 hHeld ?r1002
    case h1002 => (intro w hSw; (try dsimp only at hSw); go_simp; try (with_reducible rfl))
    simp only [Act.put, List.setIfInBounds_toArray, List.set_cons_zero, List.set_cons_succ]
    refine anyH_take 2 71 (v := ?v1003) rfl rfl (by kernel_rfl) (by kernel_rfl) (by kernel_rfl) (fun _ _ _ h => h) (by rfl) ?h1003 hHeld ?r1003
    case h1003 => (intro w hSw; (try dsimp only at hSw); go_simp; try (with_reducible rfl))
    simp only [Act.put, List.setIfInBounds_toArray, List.set_cons_zero, List.set_cons_succ]
    refine anyH_take 3 72 (v := ?v1004) rfl rfl (by kernel_rfl) (by kernel_rfl) (by kernel_rfl) (fun _ _ _ h => h) (by rfl) ?h1004 hHeld ?r1004
    case h1004 => (intro w hSw; (try dsimp only at hSw); go_simp; try (with_reducible rfl))
    simp only [Act.put, List.setIfInBounds_toArray, List.set_cons_zero, List.set_cons_succ]
    refine anyH_take 4 73 (v := ?v1005) rfl rfl (by kernel_rfl) (by kernel_rfl) (by kernel_rfl) (fun _ _ _ h => h) (by rfl) ?h1005 hHeld ?r1005
    case h1005 => (intro w hSw; (try dsimp only at hSw); go_simp; try (with_reducible rfl))
    simp only [Act.put, List.setIfInBounds_toArray, List.set_cons_zero, List.set_cons_succ]
    refine anyH_take 5 74 (v := ?v1006) rfl rfl (by kernel_rfl) (by kernel_rfl) (by kernel_rfl) (fun _ _ _ h => h) (by rfl) ?h1006 hHeld ?r1006
    case h1006 => (intro w hSw; (try dsimp only at hSw); go_simp; try (with_reducible rfl))
    simp only [Act.put, List.setIfInBounds_toArray, List.set_cons_zero, List.set_cons_succ]
    refine wpAnyH_ready (rs := [6]) (by kernel_rfl) (by simp) ?_
    refine AllReadyH.cons rfl (fun K hK => ?_) AllReadyH.nil
    go_simp
    refine hK.out _ _ (unhide SK11) (fun hHeld => ?_)
    clear hK K
    refine wpAnyH_done (by kernel_rfl) ?_ _
    generalize (X3.setCell ⟨gp, j, none⟩ (.pointer none)).drew = X4 at *
    clear SK11 n1' n2'
    go_wp2_with fail
    refine (unhide HDF).mono ?_
    rintro e w8 ⟨v8, rfl, o8, hg8⟩
    rw [show (Value.slice ai idx.length ci).ownBlock = vi.ownBlock by rw [unhide HVI]] at hg8
    obtain ⟨F5, W5, k5⟩ := (unhide F4).index hg8 o8
    have e1 := (heap_at k5 1).1
    have e2 := (heap_at k5 1).2
    have kg5 : (w8.setCell ⟨mb, 1, none⟩ v8).heap[xb + 1]? = some (.cells #[.int .i64 (j : Int)] 3 (0, 0)) := (W5.block (xb + 1) (blk_lt (unhide KG4)) (fun h => by have := unhide TW _ h; omega)).trans (unhide KG4)
    have g5 := (heap_at kg5 0).1
    have RES := hide (show TbRs B mb vp vi (merT (qsP qs) idx id X) w (.returned (.tuple #[.int .i64 (j : Int), .int .i64 0])) (w8.setCell ⟨mb, 1, none⟩ v8) by
      rw [unhide MT2]
      exact ⟨_, vp, v8, rfl, F5, (by rw [qsP_set, qsP_set]; rfl), (unhide W4).seq W5⟩)
    obtain ⟨a8, n8, c8, hv8⟩ : ∃ a n c, v8 = .slice a n c := by
      rcases o8.2 with ⟨e, _⟩ | ⟨_, _, _, e, _⟩
      · exact ⟨_, _, _, e⟩
      · exact ⟨_, _, _, e⟩
    subst hv8
    clear F5 W5 k5 hg8 o8 F4 HDF W4 KG4 kg5
    go_wp2_with fail
    go_ret2
    exact unhide RES
end Go.Proofs.Ytbhkmmdcdfjbkaa

namespace Go.Proofs.Ytbhkmmdcdfjbkaa
open Go.RowKit

theorem TbRs.ahead {B mb : Nat} {vp vi : Value} {r : StR} {w u w' : World} {e : Ending} (hb : Below w.heap.size w u) (h : TbRs B mb vp vi r u e w') : TbRs B mb vp vi r w e w' := by
  obtain ⟨qs, vp', vi', h1, h2, h3, h4⟩ := h
  exact ⟨qs, vp', vi', h1, h2, h3, (WrB.of_below hb).seq h4⟩
theorem TbRs.told {B mb : Nat} {vp vi : Value} {r : StR} {w w' : World} {e : Ending} (h : TbRs B mb vp vi r w e w') : ∃ T C : Int, e = .returned (.tuple #[.int .i64 T, .int .i64 C]) ∧ TbRs B mb vp vi r w (.returned (.tuple #[.int .i64 T, .int .i64 C])) w' := by
  obtain ⟨qs, vp', vi', h1, h2, h3, h4⟩ := h
  exact ⟨_, _, h1, ⟨qs, vp', vi', rfl, h2, h3, h4⟩⟩
set_option maxRecDepth 100000 in
set_option maxHeartbeats 4000000 in
theorem atPage_consolidate (B mb : Nat) (qs : List (Option (Nat × PpH))) (idx : List RefD) (vp vi : Value) (id : Int) (w : World) (hF : TbF w B mb qs idx vp vi) (hB : B ≤ w.heap.size) (hT : Tre (qsP qs) idx) :
    Calls Try.prog 63 #[.pointer (some ⟨mb, 0, none⟩), .int .i64 id, .func (.func 41) #[.pointer (some ⟨mb, 0, none⟩)] #[]] w fun e w' => TbRs B mb vp vi (atT (qsP qs) idx id (conT (qsP qs) idx)) w e w' := by
  have NOP := hide (show ∀ r : StR, r.ps = qsP qs → r.idx = idx → TbRs B mb vp vi r w (.returned (.tuple #[.int .i64 r.told, .int .i64 r.code])) w from fun r h1 h2 => ⟨qs, vp, vi, rfl, by rw [h2]; exact hF, h1.symm, WrB.of_below (Below.refl _ _)⟩)
  have hq30 : qs.length ≤ 30 := by have := hT.len.2; rw [qsP_len] at this; exact this
  by_cases h0 : id < 0
  · have RES := hide (show TbRs B mb vp vi (atT (qsP qs) idx id (conT (qsP qs) idx)) w (.returned (.tuple #[.int .i64 0, .int .i64 4])) w by
      unfold atT
      rw [if_pos (.inl h0)]
      exact unhide NOP ⟨qsP qs, idx, 0, 4⟩ rfl rfl)
    clear hF hT NOP
    go_enter Try.func63, Try.ntmps63
    go_wp2_with fail
    go_ret2
    exact unhide RES
  obtain ⟨k, rfl⟩ : ∃ k : Nat, id = (k : Int) := ⟨id.toNat, by omega⟩
  obtain ⟨ap, cp, ai, ci, hvp, hvi, hM⟩ := hF.table
  have c0 := (heap_at hF.own.box 0).1
  rw [hvp] at c0
  by_cases h1 : k < qs.length
  case neg =>
    have RES := hide (show TbRs B mb vp vi (atT (qsP qs) idx (k : Int) (conT (qsP qs) idx)) w (.returned (.tuple #[.int .i64 0, .int .i64 4])) w by
      unfold atT
      rw [if_pos (.inr (by rw [qsP_len]; omega))]
      exact unhide NOP ⟨qsP qs, idx, 0, 4⟩ rfl rfl)
    clear hF hT NOP hM hvp hvi
    go_enter Try.func63, Try.ntmps63
    go_wp2_with fail
    go_ret2
    exact unhide RES
  have AT := hide (show atT (qsP qs) idx (k : Int) (conT (qsP qs) idx) = match getP (qsP qs) (k : Int) with
    | none => ⟨qsP qs, idx, 0, 12⟩
    | some p => conT (qsP qs) idx k p by
      unfold atT
      rw [if_neg (fun h => by rcases h with h | h <;> (try rw [qsP_len] at h) <;> omega), Int.toNat_natCast]
      rfl)
  obtain ⟨b, off, hap, hc⟩ := hM.row.at (j := k) (u := ptrQ qs[k]) (by rw [List.getElem?_map, List.getElem?_eq_getElem h1]; rfl)
  subst hap
  have GP := hide (show getP (qsP qs) (k : Int) = (qs[k]).map (fun x => x.2.X) by
    rw [getP_nat, qsP, List.getElem?_map, List.getElem?_eq_getElem h1]
    rfl)
  cases hg : getP (qsP qs) (k : Int) with
  | none =>
    have hqn : qs[k] = none := by
      have h := unhide GP
      rw [hg] at h
      cases hq : qs[k] with
      | none => rfl
      | some x => rw [hq] at h; cases h
    rw [hqn] at hc
    unfold ptrQ at hc
    simp only [Option.map_none] at hc
    have RES := hide (show TbRs B mb vp vi (atT (qsP qs) idx (k : Int) (conT (qsP qs) idx)) w (.returned (.tuple #[.int .i64 0, .int .i64 12])) w by
      rw [unhide AT, hg]
      exact unhide NOP ⟨qsP qs, idx, 0, 12⟩ rfl rfl)
    clear hF hT NOP hM hvp hvi GP AT hqn hg
    go_enter Try.func63, Try.ntmps63
    go_wp2_with fail
    go_ret2
    exact unhide RES
  | some p =>
    obtain ⟨x, hqs⟩ : ∃ x, qs[k] = some x := by
      have h := unhide GP
      rw [hg] at h
      cases hq : qs[k] with
      | none => rw [hq] at h; cases h
      | some x => exact ⟨x, rfl⟩
    rw [hqs] at hc
    unfold ptrQ at hc
    simp only [Option.map_some] at hc
    have HD := hide (consolidate_any B mb qs idx vp vi k p w hF hB hg (hT.ok _ p hg))
    have AE := hide (show conT (qsP qs) idx k p = atT (qsP qs) idx (k : Int) (conT (qsP qs) idx) by rw [unhide AT, hg])
    rw [unhide AE] at HD
    clear hF hT NOP hM hvp hvi GP AT hqs hg AE
    go_enter Try.func63, Try.ntmps63
    go_wp2_with fail
    refine (unhide HD).mono ?_
    rintro e w2 hres
    obtain ⟨Rt, Rc, rfl, hq⟩ := hres.told
    have RES := hide hq
    clear hres hq HD
    go_wp2_with fail
    go_ret2
    exact unhide RES
set_option maxRecDepth 100000 in
set_option maxHeartbeats 4000000 in
theorem atPage_split (B mb : Nat) (qs : List (Option (Nat × PpH))) (idx : List RefD) (vp vi : Value) (id : Int) (w : World) (hF : TbF w B mb qs idx vp vi) (hB : B ≤ w.heap.size) (hT : Tre (qsP qs) idx) :
    Calls Try.prog 63 #[.pointer (some ⟨mb, 0, none⟩), .int .i64 id, .func (.func 42) #[.pointer (some ⟨mb, 0, none⟩)] #[]] w fun e w' => TbRs B mb vp vi (atT (qsP qs) idx id (splT (qsP qs) idx)) w e w' := by
  have NOP := hide (show ∀ r : StR, r.ps = qsP qs → r.idx = idx → TbRs B mb vp vi r w (.returned (.tuple #[.int .i64 r.told, .int .i64 r.code])) w from fun r h1 h2 => ⟨qs, vp, vi, rfl, by rw [h2]; exact hF, h1.symm, WrB.of_below (Below.refl _ _)⟩)
  have hq30 : qs.length ≤ 30 := by have := hT.len.2; rw [qsP_len] at this; exact this
  by_cases h0 : id < 0
  · have RES := hide (show TbRs B mb vp vi (atT (qsP qs) idx id (splT (qsP qs) idx)) w (.returned (.tuple #[.int .i64 0, .int .i64 4])) w by
      unfold atT
      rw [if_pos (.inl h0)]
      exact unhide NOP ⟨qsP qs, idx, 0, 4⟩ rfl rfl)
    clear hF hT NOP
    go_enter Try.func63, Try.ntmps63
    go_wp2_with fail
    go_ret2
    exact unhide RES
  obtain ⟨k, rfl⟩ : ∃ k : Nat, id = (k : Int) := ⟨id.toNat, by omega⟩
  obtain ⟨ap, cp, ai, ci, hvp, hvi, hM⟩ := hF.table
  have c0 := (heap_at hF.own.box 0).1
  rw [hvp] at c0
  by_cases h1 : k < qs.length
  case neg =>
    have RES := hide (show TbRs B mb vp vi (atT (qsP qs) idx (k : Int) (splT (qsP qs) idx)) w (.returned (.tuple #[.int .i64 0, .int .i64 4])) w by
      unfold atT
      rw [if_pos (.inr (by rw [qsP_len]; omega))]
      exact unhide NOP ⟨qsP qs, idx, 0, 4⟩ rfl rfl)
    clear hF hT NOP hM hvp hvi
    go_enter Try.func63, Try.ntmps63
    go_wp2_with fail
    go_ret2
    exact unhide RES
  have AT := hide (show atT (qsP qs) idx (k : Int) (splT (qsP qs) idx) = match getP (qsP qs) (k : Int) with
    | none => ⟨qsP qs, idx, 0, 12⟩
    | some p => splT (qsP qs) idx k p by
      unfold atT
      rw [if_neg (fun h => by rcases h with h | h <;> (try rw [qsP_len] at h) <;> omega), Int.toNat_natCast]
      rfl)
  obtain ⟨b, off, hap, hc⟩ := hM.row.at (j := k) (u := ptrQ qs[k]) (by rw [List.getElem?_map, List.getElem?_eq_getElem h1]; rfl)
  subst hap
  have GP := hide (show getP (qsP qs) (k : Int) = (qs[k]).map (fun x => x.2.X) by
    rw [getP_nat, qsP, List.getElem?_map, List.getElem?_eq_getElem h1]
    rfl)
  cases hg : getP (qsP qs) (k : Int) with
  | none =>
    have hqn : qs[k] = none := by
      have h := unhide GP
      rw [hg] at h
      cases hq : qs[k] with
      | none => rfl
      | some x => rw [hq] at h; cases h
    rw [hqn] at hc
    unfold ptrQ at hc
    simp only [Option.map_none] at hc
    have RES := hide (show TbRs B mb vp vi (atT (qsP qs) idx (k : Int) (splT (qsP qs) idx)) w (.returned (.tuple #[.int .i64 0, .int .i64 12])) w by
      rw [unhide AT, hg]
      exact unhide NOP ⟨qsP qs, idx, 0, 12⟩ rfl rfl)
    clear hF hT NOP hM hvp hvi GP AT hqn hg
    go_enter Try.func63, Try.ntmps63
    go_wp2_with fail
    go_ret2
    exact unhide RES
  | some p =>
    obtain ⟨x, hqs⟩ : ∃ x, qs[k] = some x := by
      have h := unhide GP
      rw [hg] at h
      cases hq : qs[k] with
      | none => rw [hq] at h; cases h
      | some x => exact ⟨x, rfl⟩
    rw [hqs] at hc
    unfold ptrQ at hc
    simp only [Option.map_some] at hc
    have HD := hide (split_any B mb qs idx vp vi k p w hF hB hT hg)
    have AE := hide (show splT (qsP qs) idx k p = atT (qsP qs) idx (k : Int) (splT (qsP qs) idx) by rw [unhide AT, hg])
    rw [unhide AE] at HD
    clear hF hT NOP hM hvp hvi GP AT hqs hg AE
    go_enter Try.func63, Try.ntmps63
    go_wp2_with fail
    refine (unhide HD).mono ?_
    rintro e w2 hres
    obtain ⟨Rt, Rc, rfl, hq⟩ := hres.told
    have RES := hide hq
    clear hres hq HD
    go_wp2_with fail
    go_ret2
    exact unhide RES
set_option maxRecDepth 100000 in
set_option maxHeartbeats 4000000 in
theorem atPage_post (B mb : Nat) (qs : List (Option (Nat × PpH))) (idx : List RefD) (vp vi : Value) (id : Int) (w : World) (hF : TbF w B mb qs idx vp vi) (hB : B ≤ w.heap.size) (hT : Tre (qsP qs) idx) :
    Calls Try.prog 63 #[.pointer (some ⟨mb, 0, none⟩), .int .i64 id, .func (.func 43) #[.pointer (some ⟨mb, 0, none⟩)] #[]] w fun e w' => TbRs B mb vp vi (atT (qsP qs) idx id (posT (qsP qs) idx)) w e w' := by
  have NOP := hide (show ∀ r : StR, r.ps = qsP qs → r.idx = idx → TbRs B mb vp vi r w (.returned (.tuple #[.int .i64 r.told, .int .i64 r.code])) w from fun r h1 h2 => ⟨qs, vp, vi, rfl, by rw [h2]; exact hF, h1.symm, WrB.of_below (Below.refl _ _)⟩)
  have hq30 : qs.length ≤ 30 := by have := hT.len.2; rw [qsP_len] at this; exact this
  by_cases h0 : id < 0
  · have RES := hide (show TbRs B mb vp vi (atT (qsP qs) idx id (posT (qsP qs) idx)) w (.returned (.tuple #[.int .i64 0, .int .i64 4])) w by
      unfold atT
      rw [if_pos (.inl h0)]
      exact unhide NOP ⟨qsP qs, idx, 0, 4⟩ rfl rfl)
    clear hF hT NOP
    go_enter Try.func63, Try.ntmps63
    go_wp2_with fail
    go_ret2
    exact unhide RES
  obtain ⟨k, rfl⟩ : ∃ k : Nat, id = (k : Int) := ⟨id.toNat, by omega⟩
  obtain ⟨ap, cp, ai, ci, hvp, hvi, hM⟩ := hF.table
  have c0 := (heap_at hF.own.box 0).1
  rw [hvp] at c0
  by_cases h1 : k < qs.length
  case neg =>
    have RES := hide (show TbRs B mb vp vi (atT (qsP qs) idx (k : Int) (posT (qsP qs) idx)) w (.returned (.tuple #[.int .i64 0, .int .i64 4])) w by
      unfold atT
      rw [if_pos (.inr (by rw [qsP_len]; omega))]
      exact unhide NOP ⟨qsP qs, idx, 0, 4⟩ rfl rfl)
    clear hF hT NOP hM hvp hvi
    go_enter Try.func63, Try.ntmps63
    go_wp2_with fail
    go_ret2
    exact unhide RES
  have AT := hide (show atT (qsP qs) idx (k : Int) (posT (qsP qs) idx) = match getP (qsP qs) (k : Int) with
    | none => ⟨qsP qs, idx, 0, 12⟩
    | some p => posT (qsP qs) idx k p by
      unfold atT
      rw [if_neg (fun h => by rcases h with h | h <;> (try rw [qsP_len] at h) <;> omega), Int.toNat_natCast]
      rfl)
  obtain ⟨b, off, hap, hc⟩ := hM.row.at (j := k) (u := ptrQ qs[k]) (by rw [List.getElem?_map, List.getElem?_eq_getElem h1]; rfl)
  subst hap
  have GP := hide (show getP (qsP qs) (k : Int) = (qs[k]).map (fun x => x.2.X) by
    rw [getP_nat, qsP, List.getElem?_map, List.getElem?_eq_getElem h1]
    rfl)
  cases hg : getP (qsP qs) (k : Int) with
  | none =>
    have hqn : qs[k] = none := by
      have h := unhide GP
      rw [hg] at h
      cases hq : qs[k] with
      | none => rfl
      | some x => rw [hq] at h; cases h
    rw [hqn] at hc
    unfold ptrQ at hc
    simp only [Option.map_none] at hc
    have RES := hide (show TbRs B mb vp vi (atT (qsP qs) idx (k : Int) (posT (qsP qs) idx)) w (.returned (.tuple #[.int .i64 0, .int .i64 12])) w by
      rw [unhide AT, hg]
      exact unhide NOP ⟨qsP qs, idx, 0, 12⟩ rfl rfl)
    clear hF hT NOP hM hvp hvi GP AT hqn hg
    go_enter Try.func63, Try.ntmps63
    go_wp2_with fail
    go_ret2
    exact unhide RES
  | some p =>
    obtain ⟨x, hqs⟩ : ∃ x, qs[k] = some x := by
      have h := unhide GP
      rw [hg] at h
      cases hq : qs[k] with
      | none => rw [hq] at h; cases h
      | some x => exact ⟨x, rfl⟩
    rw [hqs] at hc
    unfold ptrQ at hc
    simp only [Option.map_some] at hc
    have HD := hide (post_any B mb qs idx vp vi k p w hF hB hT hg)
    have AE := hide (show posT (qsP qs) idx k p = atT (qsP qs) idx (k : Int) (posT (qsP qs) idx) by rw [unhide AT, hg])
    rw [unhide AE] at HD
    clear hF hT NOP hM hvp hvi GP AT hqs hg AE
    go_enter Try.func63, Try.ntmps63
    go_wp2_with fail
    refine (unhide HD).mono ?_
    rintro e w2 hres
    obtain ⟨Rt, Rc, rfl, hq⟩ := hres.told
    have RES := hide hq
    clear hres hq HD
    go_wp2_with fail
    go_ret2
    exact unhide RES
set_option maxRecDepth 100000 in
set_option maxHeartbeats 4000000 in
theorem atPage_merge (B mb : Nat) (qs : List (Option (Nat × PpH))) (idx : List RefD) (vp vi : Value) (id : Int) (w : World) (hF : TbF w B mb qs idx vp vi) (hB : B ≤ w.heap.size) (hT : Tre (qsP qs) idx) :
    Calls Try.prog 63 #[.pointer (some ⟨mb, 0, none⟩), .int .i64 id, .func (.func 64) #[.pointer (some ⟨mb, 0, none⟩)] #[]] w fun e w' => TbRs B mb vp vi (atT (qsP qs) idx id (merT (qsP qs) idx)) w e w' := by
  have NOP := hide (show ∀ r : StR, r.ps = qsP qs → r.idx = idx → TbRs B mb vp vi r w (.returned (.tuple #[.int .i64 r.told, .int .i64 r.code])) w from fun r h1 h2 => ⟨qs, vp, vi, rfl, by rw [h2]; exact hF, h1.symm, WrB.of_below (Below.refl _ _)⟩)
  have hq30 : qs.length ≤ 30 := by have := hT.len.2; rw [qsP_len] at this; exact this
  by_cases h0 : id < 0
  · have RES := hide (show TbRs B mb vp vi (atT (qsP qs) idx id (merT (qsP qs) idx)) w (.returned (.tuple #[.int .i64 0, .int .i64 4])) w by
      unfold atT
      rw [if_pos (.inl h0)]
      exact unhide NOP ⟨qsP qs, idx, 0, 4⟩ rfl rfl)
    clear hF hT NOP
    go_enter Try.func63, Try.ntmps63
    go_wp2_with fail
    go_ret2
    exact unhide RES
  obtain ⟨k, rfl⟩ : ∃ k : Nat, id = (k : Int) := ⟨id.toNat, by omega⟩
  obtain ⟨ap, cp, ai, ci, hvp, hvi, hM⟩ := hF.table
  have c0 := (heap_at hF.own.box 0).1
  rw [hvp] at c0
  by_cases h1 : k < qs.length
  case neg =>
    have RES := hide (show TbRs B mb vp vi (atT (qsP qs) idx (k : Int) (merT (qsP qs) idx)) w (.returned (.tuple #[.int .i64 0, .int .i64 4])) w by
      unfold atT
      rw [if_pos (.inr (by rw [qsP_len]; omega))]
      exact unhide NOP ⟨qsP qs, idx, 0, 4⟩ rfl rfl)
    clear hF hT NOP hM hvp hvi
    go_enter Try.func63, Try.ntmps63
    go_wp2_with fail
    go_ret2
    exact unhide RES
  have AT := hide (show atT (qsP qs) idx (k : Int) (merT (qsP qs) idx) = match getP (qsP qs) (k : Int) with
    | none => ⟨qsP qs, idx, 0, 12⟩
    | some p => merT (qsP qs) idx k p by
      unfold atT
      rw [if_neg (fun h => by rcases h with h | h <;> (try rw [qsP_len] at h) <;> omega), Int.toNat_natCast]
      rfl)
  obtain ⟨b, off, hap, hc⟩ := hM.row.at (j := k) (u := ptrQ qs[k]) (by rw [List.getElem?_map, List.getElem?_eq_getElem h1]; rfl)
  subst hap
  have GP := hide (show getP (qsP qs) (k : Int) = (qs[k]).map (fun x => x.2.X) by
    rw [getP_nat, qsP, List.getElem?_map, List.getElem?_eq_getElem h1]
    rfl)
  cases hg : getP (qsP qs) (k : Int) with
  | none =>
    have hqn : qs[k] = none := by
      have h := unhide GP
      rw [hg] at h
      cases hq : qs[k] with
      | none => rfl
      | some x => rw [hq] at h; cases h
    rw [hqn] at hc
    unfold ptrQ at hc
    simp only [Option.map_none] at hc
    have RES := hide (show TbRs B mb vp vi (atT (qsP qs) idx (k : Int) (merT (qsP qs) idx)) w (.returned (.tuple #[.int .i64 0, .int .i64 12])) w by
      rw [unhide AT, hg]
      exact unhide NOP ⟨qsP qs, idx, 0, 12⟩ rfl rfl)
    clear hF hT NOP hM hvp hvi GP AT hqn hg
    go_enter Try.func63, Try.ntmps63
    go_wp2_with fail
    go_ret2
    exact unhide RES
  | some p =>
    obtain ⟨x, hqs⟩ : ∃ x, qs[k] = some x := by
      have h := unhide GP
      rw [hg] at h
      cases hq : qs[k] with
      | none => rw [hq] at h; cases h
      | some x => exact ⟨x, rfl⟩
    rw [hqs] at hc
    unfold ptrQ at hc
    simp only [Option.map_some] at hc
    have HD := hide (merge_any B mb qs idx vp vi k p w hF hB hT hg)
    have AE := hide (show merT (qsP qs) idx k p = atT (qsP qs) idx (k : Int) (merT (qsP qs) idx) by rw [unhide AT, hg])
    rw [unhide AE] at HD
    clear hF hT NOP hM hvp hvi GP AT hqs hg AE
    go_enter Try.func63, Try.ntmps63
    go_wp2_with fail
    refine (unhide HD).mono ?_
    rintro e w2 hres
    obtain ⟨Rt, Rc, rfl, hq⟩ := hres.told
    have RES := hide hq
    clear hres hq HD
    go_wp2_with fail
    go_ret2
    exact unhide RES
set_option maxRecDepth 100000 in
set_option maxHeartbeats 4000000 in
theorem step_any (B mb : Nat) (qs : List (Option (Nat × PpH))) (idx : List RefD) (vp vi : Value) (a : AcT) (w : World) (hF : TbF w B mb qs idx vp vi) (hB : B ≤ w.heap.size) (hT : Tre (qsP qs) idx) :
    Calls Try.prog 40 #[.pointer (some ⟨mb, 0, none⟩), .agg #[.int .i64 a.kind, .int .i64 a.id, .string a.key, .string a.val]] w fun e w' => TbRs B mb vp vi (stepT (qsP qs) idx a) w e w' := by
  have bW := (Below.refl w.heap.size w).alloc (Nat.le_refl _) (.cells #[.int .i64 a.kind, .int .i64 a.id, .string a.key, .string a.val] 35)
  have hB2 := Nat.le_trans hB bW.size
  have F := hF.below bW
  have H1 := hide (change_any B mb qs idx vp vi a _ F hB2 hT)
  have H3 := hide (atPage_consolidate B mb qs idx vp vi a.id _ F hB2 hT)
  have H4 := hide (atPage_split B mb qs idx vp vi a.id _ F hB2 hT)
  have H5 := hide (atPage_post B mb qs idx vp vi a.id _ F hB2 hT)
  have H6 := hide (atPage_merge B mb qs idx vp vi a.id _ F hB2 hT)
  have NOP := hide (show TbRs B mb vp vi ⟨qsP qs, idx, 0, 3⟩ w (.returned (.tuple #[.int .i64 0, .int .i64 3])) _ from ⟨qs, vp, vi, rfl, F, rfl, WrB.of_below bW⟩)
  have AH := hide (fun (r : StR) (e : Ending) (w' : World) (h : TbRs B mb vp vi r _ e w') => TbRs.ahead bW h)
  clear hF hT F bW
  obtain ⟨kind, id, key, val⟩ := a
  simp only at *
  by_cases h1 : kind = 1
  · subst h1
    have SE := hide (show stepT (qsP qs) idx ⟨1, id, key, val⟩ = chgT (qsP qs) idx ⟨1, id, key, val⟩ by simp [stepT])
    clear NOP
    go_enter Try.func40, Try.ntmps40
    go_wp2_with fail
    refine (unhide H1).mono ?_
    rintro e w2 hres
    obtain ⟨Rt, Rc, rfl, hq⟩ := (unhide AH _ _ _ hres).told
    have RES := hide (show TbRs B mb vp vi (stepT (qsP qs) idx ⟨1, id, key, val⟩) w (.returned (.tuple #[.int .i64 Rt, .int .i64 Rc])) w2 by rw [unhide SE]; exact hq)
    clear hres hq
    go_wp2_with fail
    go_ret2
    exact unhide RES
  by_cases h2 : kind = 2
  · subst h2
    have SE := hide (show stepT (qsP qs) idx ⟨2, id, key, val⟩ = chgT (qsP qs) idx ⟨2, id, key, val⟩ by simp [stepT])
    clear NOP
    go_enter Try.func40, Try.ntmps40
    go_wp2_with fail
    refine (unhide H1).mono ?_
    rintro e w2 hres
    obtain ⟨Rt, Rc, rfl, hq⟩ := (unhide AH _ _ _ hres).told
    have RES := hide (show TbRs B mb vp vi (stepT (qsP qs) idx ⟨2, id, key, val⟩) w (.returned (.tuple #[.int .i64 Rt, .int .i64 Rc])) w2 by rw [unhide SE]; exact hq)
    clear hres hq
    go_wp2_with fail
    go_ret2
    exact unhide RES
  by_cases h3 : kind = 3
  · subst h3
    have SE := hide (show stepT (qsP qs) idx ⟨3, id, key, val⟩ = atT (qsP qs) idx id (conT (qsP qs) idx) by simp [stepT])
    clear NOP
    go_enter Try.func40, Try.ntmps40
    go_wp2_with fail
    refine (unhide H3).mono ?_
    rintro e w2 hres
    obtain ⟨Rt, Rc, rfl, hq⟩ := (unhide AH _ _ _ hres).told
    have RES := hide (show TbRs B mb vp vi (stepT (qsP qs) idx ⟨3, id, key, val⟩) w (.returned (.tuple #[.int .i64 Rt, .int .i64 Rc])) w2 by rw [unhide SE]; exact hq)
    clear hres hq
    go_wp2_with fail
    go_ret2
    exact unhide RES
  by_cases h4 : kind = 4
  · subst h4
    have SE := hide (show stepT (qsP qs) idx ⟨4, id, key, val⟩ = atT (qsP qs) idx id (splT (qsP qs) idx) by simp [stepT])
    clear NOP
    go_enter Try.func40, Try.ntmps40
    go_wp2_with fail
    refine (unhide H4).mono ?_
    rintro e w2 hres
    obtain ⟨Rt, Rc, rfl, hq⟩ := (unhide AH _ _ _ hres).told
    have RES := hide (show TbRs B mb vp vi (stepT (qsP qs) idx ⟨4, id, key, val⟩) w (.returned (.tuple #[.int .i64 Rt, .int .i64 Rc])) w2 by rw [unhide SE]; exact hq)
    clear hres hq
    go_wp2_with fail
    go_ret2
    exact unhide RES
  by_cases h5 : kind = 5
  · subst h5
    have SE := hide (show stepT (qsP qs) idx ⟨5, id, key, val⟩ = atT (qsP qs) idx id (posT (qsP qs) idx) by simp [stepT])
    clear NOP
    go_enter Try.func40, Try.ntmps40
    go_wp2_with fail
    refine (unhide H5).mono ?_
    rintro e w2 hres
    obtain ⟨Rt, Rc, rfl, hq⟩ := (unhide AH _ _ _ hres).told
    have RES := hide (show TbRs B mb vp vi (stepT (qsP qs) idx ⟨5, id, key, val⟩) w (.returned (.tuple #[.int .i64 Rt, .int .i64 Rc])) w2 by rw [unhide SE]; exact hq)
    clear hres hq
    go_wp2_with fail
    go_ret2
    exact unhide RES
  by_cases h6 : kind = 6
  · subst h6
    have SE := hide (show stepT (qsP qs) idx ⟨6, id, key, val⟩ = atT (qsP qs) idx id (merT (qsP qs) idx) by simp [stepT])
    clear NOP
    go_enter Try.func40, Try.ntmps40
    go_wp2_with fail
    refine (unhide H6).mono ?_
    rintro e w2 hres
    obtain ⟨Rt, Rc, rfl, hq⟩ := (unhide AH _ _ _ hres).told
    have RES := hide (show TbRs B mb vp vi (stepT (qsP qs) idx ⟨6, id, key, val⟩) w (.returned (.tuple #[.int .i64 Rt, .int .i64 Rc])) w2 by rw [unhide SE]; exact hq)
    clear hres hq
    go_wp2_with fail
    go_ret2
    exact unhide RES
  have SE := hide (show stepT (qsP qs) idx ⟨kind, id, key, val⟩ = ⟨qsP qs, idx, 0, 3⟩ by
    unfold stepT
    simp only
    rw [if_neg (fun h => h.elim h1 h2), if_neg h3, if_neg h4, if_neg h5, if_neg h6])
  have RES := hide (show TbRs B mb vp vi (stepT (qsP qs) idx ⟨kind, id, key, val⟩) w (.returned (.tuple #[.int .i64 0, .int .i64 3])) (w.alloc (.cells #[.int .i64 kind, .int .i64 id, .string key, .string val] 35)) by rw [unhide SE]; exact unhide NOP)
  have g1 : (kind == 1) = false := by simpa using h1
  have g2 : (kind == 2) = false := by simpa using h2
  have g3 : (kind == 3) = false := by simpa using h3
  have g4 : (kind == 4) = false := by simpa using h4
  have g5 : (kind == 5) = false := by simpa using h5
  have g6 : (kind == 6) = false := by simpa using h6
  clear H1 H3 H4 H5 H6 NOP SE h1 h2 h3 h4 h5 h6
  go_enter Try.func40, Try.ntmps40
  go_wp2_with fail
  go_ret2
  exact unhide RES
end Go.Proofs.Ytbhkmmdcdfjbkaa

namespace Go.Proofs.Ytbhkmmdcdfjbkaa
open Go.RowKit

theorem sbAt_snoc {es : List El} {e : El} {i a : Nat} {x : Sb} (h : sbAt (es ++ [e]) i a = some x) : (i < es.length ∧ sbAt es i a = some x) ∨ (i = es.length ∧ e.sb[a]? = some x) := by
  unfold sbAt at h
  by_cases hi : i < es.length
  · rw [List.getElem?_append_left hi] at h
    exact .inl ⟨hi, h⟩
  · by_cases he : i = es.length
    · subst he
      rw [List.getElem?_append_right (Nat.le_refl _), Nat.sub_self] at h
      exact .inr ⟨rfl, h⟩
    · rw [List.getElem?_append_right (by omega), List.getElem?_eq_none (by simp; omega)] at h
      cases h
/-- A record appended: its rows lie apart. -/
theorem NOwn.app {w : World} {B T S n C : Nat} {v : Value} {es : List El} {e : El} (ty : TypeId) {i0 : TypeInfo} {z : Value} {by_ : Nat} (hu : Try.prog.underlying ty = some (.slice T)) (hi0 : Try.prog.info? T = some i0) (hz0 : i0.zero = some z) (hz1 : i0.size = S) (hz2 : i0.bytes = by_) (hzs : z.cells.size = S) (hS : 0 < S) (hby : by_ ≤ 1000)
    (ho : NOwn w B T S v n es) (hw : e.hd.length = S) (h1 : ∀ u ∈ e.hd, u.oneCell' = true) (hd : ∀ x ∈ e.sb, w.ownsRow C x.t x.s x.v x.n x.cs) (hC : ∀ i, NBl v es i → i < C) (hBC : B ≤ C)
    (hf : ∀ (a b : Nat) (x y : Sb), e.sb[a]? = some x → e.sb[b]? = some y → a ≠ b → ∀ g, x.v.ownBlock = some g → y.v.ownBlock ≠ some g) (hz : n ≤ 900000) (hB : B ≤ w.heap.size) :
    ∃ v' w', (Builtin.append_ #[ty, ty] ty #[v, .slice (some ⟨w.heap.size, 0, none⟩) 1 1]).run Try.prog (w.alloc (.cells e.hd.toArray T)) = .ok v' w' ∧ NOwn w' B T S v' (n + 1) (es ++ [e]) ∧ (w.alloc (.cells e.hd.toArray T)).grownBy w' v.ownBlock ∧ v' ≠ .slice none 0 0 := by
  obtain ⟨W, hW⟩ : ∃ W, W = w.alloc (.cells e.hd.toArray T) := ⟨_, rfl⟩
  have bA : Below w.heap.size w W := by rw [hW]; exact (Below.refl _ _).alloc (Nat.le_refl _) _
  have zW : W.heap.size = w.heap.size + 1 := by rw [hW]; simp
  have hcells : ∀ j u, e.hd[j]? = some u → W.cell? ((⟨w.heap.size, 0, none⟩ : Addr).add j) = some u := fun j u hu => by
    have e2 : (⟨w.heap.size, 0, none⟩ : Addr).add j = ⟨w.heap.size, j, none⟩ := by unfold Addr.add; split <;> simp_all
    rw [e2, hW]
    exact rb_cell_new rfl (by simpa using hu)
  have hoa := ho.below bA
  rw [← hW]
  have hbb : (n + 1) * by_ ≤ 900001 * 1000 := Nat.mul_le_mul (by omega) hby
  obtain ⟨v', w', hrun, ho', hg, hn, hloc⟩ := app_at (P := Try.prog) (w := W) (B := B) ty ty T hu hi0 hz0 hz1 hz2 hzs hS hoa.row ⟨w.heap.size, 0, none⟩ 1 1 e.hd (by rw [hw]; omega) hcells h1 (by unfold maxLen; omega) (by omega) (by omega) (fun _ => by omega)
  have hwr := WrB.of_grown hg
  have up : ∀ (k b : Nat) (y : Sb), sbAt es k b = some y → ∀ g, y.v.ownBlock = some g → g < C := fun k b y hy g hg => hC g (.inr ⟨k, b, y, hy, hg⟩)
  have lo : ∀ (b : Nat) (y : Sb), e.sb[b]? = some y → ∀ g, y.v.ownBlock = some g → C ≤ g ∧ g < w.heap.size := fun b y hy g hg => (hd y (List.mem_of_getElem? hy)).lt g hg
  refine ⟨v', w', hrun, ⟨?_, by rw [List.length_append, ho.len]; rfl, fun y hy => ?_, fun k b y hy => ?_, fun k l b d y z hy hz hne => ?_, fun k b y hy g h1 h2 => ?_⟩, hg, hn⟩
  · rw [List.flatMap_append, List.flatMap_cons, List.flatMap_nil, List.append_nil]
    exact ho'
  · rcases List.mem_append.1 hy with hy | hy
    · exact ho.wid y hy
    · rw [List.mem_singleton.1 hy]; exact hw
  · rcases sbAt_snoc hy with ⟨_, hy⟩ | ⟨_, hy⟩
    · exact rr_owns_wr (hoa.dat k b y hy) hwr (fun q hq e => hoa.off k b y hy q e hq)
    · exact gd_base (rr_owns_wr (rb_ownsRow_below (hd y (List.mem_of_getElem? hy)) bA) hwr (fun q hq e => by have := (lo b y hy q hq).1; have := hC q (.inl e); omega)) hBC
  · rcases sbAt_snoc hy with ⟨hk, hy⟩ | ⟨hk, hy⟩
    · rcases sbAt_snoc hz with ⟨hl, hz⟩ | ⟨hl, hz⟩
      · exact ho.far k l b d y z hy hz hne
      · exact fun g h1 h2 => by have := up k b y hy g h1; have := (lo d z hz g h2).1; omega
    · rcases sbAt_snoc hz with ⟨hl, hz⟩ | ⟨hl, hz⟩
      · exact fun g h1 h2 => by have := (lo b y hy g h1).1; have := up l d z hz g h2; omega
      · exact hf b d y z hy hz (by rcases hne with h | h; exact absurd (hk.trans hl.symm) h; exact h)
  · rcases sbAt_snoc hy with ⟨_, hy⟩ | ⟨_, hy⟩
    · rcases hloc with e | e
      · exact ho.off k b y hy g (by rw [← e]; exact h1) h2
      · rw [e] at h1
        injection h1 with h1
        have := ((ho.dat k b y hy).lt g h2).2
        omega
    · rcases hloc with e | e
      · have := hC g (.inl (by rw [← e]; exact h1))
        have := (lo b y hy g h2).1
        omega
      · rw [e] at h1
        injection h1 with h1
        have := (lo b y hy g h2).2
        omega
end Go.Proofs.Ytbhkmmdcdfjbkaa

namespace Go.Proofs.Ytbhkmmdcdfjbkaa
open Go.RowKit

set_option maxRecDepth 100000 in
set_option maxHeartbeats 4000000 in
theorem concatD1 (ob : Nat) (a : Option Addr) (n c : Nat) (es : List DelD) (w : World) (hc : w.cell? ⟨ob, 0, none⟩ = some (.slice a n c)) (hR : DRow w a n es) (hcn : a = none → c = 0) (hn : n ≤ 1100000) :
    Calls Try.prog 45 #[.slice (some ⟨ob, 0, none⟩) 1 1] w fun e w' => ∃ v, e = .returned v ∧ DOwns w' w.heap.size v es ∧ Below w.heap.size w w' := by
  have R := hide hR
  have hob := cell_lt hc
  clear hR
  go_enter Try.func45, Try.ntmps45
  go_wp2_with fail
  refine wp_loop_rounds 2 ?_
  rw [rounds_succ]
  go_wp2_with fail
  rw [rounds_succ]
  go_wp2_with fail
  refine (growD n w (by omega)).mono ?_
  rintro e w1 ⟨v1, rfl, hO, _, hb⟩
  obtain ⟨v2, w2, hr, hO2, hg2, _⟩ := run_appD (c := c) 49 hO ((unhide R).below hb) (by simp) (by omega) hcn hb.size
  have hc1 := (hb.cell (p := ⟨ob, 0, none⟩) hob).trans hc
  have B2 := hide (hb.trans ((Below.refl w.heap.size w1).grown hg2 hb.size (fun k hk => (hO.lt k hk).1)))
  have O2 := hide (show DOwns w2 w.heap.size v2 es from hO2)
  clear hO hO2 hg2 hb R
  go_wp2_with fail
  refine wp_loop_rounds 2 ?_
  rw [rounds_succ]
  go_wp2_with (at_builtin; refine wpAppE rfl _ _ 49 rfl _ _ v2 w2 rfl rfl hr ?_)
  rw [rounds_succ]
  go_wp2_with fail
  go_ret
  exact ⟨v2, rfl, unhide O2, unhide B2⟩
theorem Try.infoBoG : (Try.prog.info? 4).map (fun i => (i.zero, i.size, i.bytes)) = some (some (.bool false), 1, 1) := by kernel_rfl
abbrev BoOwns (w : World) (B : Nat) (v : Value) (gs : List Bool) : Prop := w.ownsRow B 4 1 v gs.length (gs.map Value.bool)
theorem b_app {w : World} {B : Nat} {v : Value} {gs : List Bool} {q : Bool} (ho : BoOwns w B v gs) (hz : gs.length ≤ 1000000) (hB : B ≤ w.heap.size) :
    ∃ v' w', (Builtin.append_ #[27, 27] 27 #[v, .slice (some ⟨w.heap.size, 0, none⟩) 1 1]).run Try.prog (w.alloc (.cells #[.bool q] 4)) = .ok v' w' ∧ BoOwns w' B v' (gs ++ [q]) ∧ (w.alloc (.cells #[.bool q] 4)).grownBy w' v.ownBlock := by
  obtain ⟨i0, hi0, hz0, hz1, hz2⟩ := info_parts Try.infoBoG
  obtain ⟨W, hW⟩ : ∃ W, W = w.alloc (.cells #[.bool q] 4) := ⟨_, rfl⟩
  have bA : Below w.heap.size w W := by rw [hW]; exact (Below.refl _ _).alloc (Nat.le_refl _) _
  have zW : W.heap.size = w.heap.size + 1 := by rw [hW]; simp
  have hcells : ∀ j u, ([Value.bool q])[j]? = some u → W.cell? ((⟨w.heap.size, 0, none⟩ : Addr).add j) = some u := fun j u hu => by
    have hj : j < 1 := by simpa using (List.getElem?_eq_some_iff.1 hu).1
    obtain rfl : j = 0 := by omega
    have e2 : (⟨w.heap.size, 0, none⟩ : Addr).add 0 = ⟨w.heap.size, 0, none⟩ := by unfold Addr.add; split <;> simp_all
    rw [e2, hW]
    exact rb_cell_new rfl (by simpa using hu)
  have hoa : BoOwns W B v gs := rb_ownsRow_below ho bA
  rw [← hW]
  obtain ⟨v', w', hrun, ho', hg, _, _⟩ := app_at (P := Try.prog) (w := W) (B := B) 27 27 4 Try.underlying27 hi0 hz0 hz1 hz2 rfl (by decide) hoa ⟨w.heap.size, 0, none⟩ 1 1 [Value.bool q] (by simp) hcells (by simp [Value.oneCell']) (by unfold maxLen; omega) (by omega) (by omega) (fun _ => by omega)
  refine ⟨v', w', hrun, ?_, hg⟩
  unfold BoOwns
  rw [List.map_append, List.length_append]
  exact ho'
/-- A page of a tree, a gone one with nothing. -/
def pgD (q : Option PageD) : PageD := q.getD ⟨⟨#[]⟩, ⟨#[]⟩, -1, [], []⟩
/-- A tree under way. -/
structure TgSt (wr : World) (B tb : Nat) (vp vg vi : Value) (hs : List PpH) (gs : List Bool) (idx : List RefD) : Prop where
  own : TrOwn wr B hs.length gs.length vp vg vi hs gs idx
  box : wr.heap[tb]? = some (.cells #[vp, vg, vi] 30 (0, 0))
theorem TgSt.below {w w' : World} {B tb : Nat} {vp vg vi : Value} {hs : List PpH} {gs : List Bool} {idx : List RefD} (h : TgSt w B tb vp vg vi hs gs idx) (hb : Below w.heap.size w w') : TgSt w' B tb vp vg vi hs gs idx :=
  ⟨h.own.below hb, (hb.block tb (blk_lt h.box)).trans h.box⟩
theorem nbl_tree {w : World} {B n tb : Nat} {v : Value} {hs : List PpH} {cs : Array Value} {t : TypeId} (h : NOwn w B 51 5 v n (hs.map ppEl)) (hb : w.heap[tb]? = some (.cells cs t (0, 0))) (h1 : t ≠ 51) (h2 : t ≠ 37) (h3 : t ≠ 86) : ¬ NBl v (hs.map ppEl) tb := fun hn => by
  obtain ⟨cur, T, hc, hT⟩ := nbl_kind h hn
  rw [hb] at hc
  injection hc with hc
  injection hc with _ hc _
  rcases hT with e | e | e
  · exact h1 (hc.trans e)
  · exact h2 (hc.trans e)
  · exact h3 (hc.trans e)
theorem own_box {w : World} {B t t' s n tb : Nat} {v : Value} {cs' : List Value} {cs : Array Value} (h : w.ownsRow B t s v n cs') (hb : w.heap[tb]? = some (.cells cs t' (0, 0))) (ht : t ≠ t') : ¬ v.ownBlock = some tb := fun e => by
  obtain ⟨cur, hc⟩ := own_kind h e
  rw [hb] at hc
  injection hc with hc
  injection hc with _ hc _
  exact ht hc.symm
/-- A page appended to a tree under way. -/
theorem TgSt.page {w w5 : World} {B tb : Nat} {vp vg vi : Value} {hs : List PpH} {gs : List Bool} {idx : List RefD} {h : PpH} (s : TgSt w B tb vp vg vi hs gs idx) (hb : Below w.heap.size w w5) (he : w5.ownsRow w.heap.size 37 2 (.slice h.s0.a h.s0.n h.s0.c) h.X.es.length (ecs h.X.es)) (hd : w5.ownsRow w.heap.size 86 4 (.slice h.s1.a h.s1.n h.s1.c) h.X.ds.length (dcs h.X.ds)) (htb : B ≤ tb) (hz : hs.length ≤ 1000) (hB : B ≤ w.heap.size) :
    ∃ v' w6, (Builtin.append_ #[26, 26] 26 #[vp, .slice (some ⟨w5.heap.size, 0, none⟩) 1 1]).run Try.prog (w5.alloc (.cells #[.string h.X.lo, .string h.X.hi, .int .i64 h.X.r, .slice h.s0.a h.s0.n h.s0.c, .slice h.s1.a h.s1.n h.s1.c] 51)) = .ok v' w6 ∧ TgSt (w6.setCell ⟨tb, 0, none⟩ v') B tb v' vg vi (hs ++ [h]) gs idx ∧ Below B w (w6.setCell ⟨tb, 0, none⟩ v') ∧ w6.heap[tb]? = some (.cells #[vp, vg, vi] 30 (0, 0)) := by
  obtain ⟨i0, hi0, hz0, hz1, hz2⟩ := info_parts Try.infoPp
  have o5 := s.own.below hb
  have k5 := (hb.block tb (blk_lt s.box)).trans s.box
  obtain ⟨v', w6, hrun, hN, hg, _⟩ := NOwn.app (C := w.heap.size) (e := ppEl h) 26 Try.underlying26 hi0 hz0 hz1 hz2 rfl (by decide) (by decide) o5.pg rfl (by
      intro u hu
      simp only [ppEl, List.mem_cons, List.not_mem_nil, or_false] at hu
      rcases hu with rfl | rfl | rfl | rfl | rfl <;> rfl) (by
      intro x hx
      simp only [ppEl, List.mem_cons, List.not_mem_nil, or_false] at hx
      rcases hx with rfl | rfl
      · exact he
      · exact hd) (fun i hi => (s.own.pg.lt i hi).2) hB (by
      intro a b x y hx hy hne g h1 h2
      match a, b, hx, hy, hne with
      | 0, 1, hx, hy, _ => injection hx with hx; injection hy with hy; subst hx hy; exact own_other he hd (by decide) h1 h2
      | 1, 0, hx, hy, _ => injection hx with hx; injection hy with hy; subst hx hy; exact own_other hd he (by decide) h1 h2
      | 0, 0, _, _, h => exact absurd rfl h
      | 1, 1, _, _, h => exact absurd rfl h
      | a + 2, _, hx, _, _ => cases hx
      | 0, b + 2, _, hy, _ => cases hy
      | 1, b + 2, _, hy, _ => cases hy) (by omega) (Nat.le_trans hB hb.size)
  have bA : Below w5.heap.size w5 (w5.alloc (.cells (ppEl h).hd.toArray 51)) := (Below.refl _ _).alloc (Nat.le_refl _) _
  have o5a := o5.below bA
  have k5a := (bA.block tb (blk_lt k5)).trans k5
  have hw := WrB.of_grown hg
  have k6 : w6.heap[tb]? = some (.cells #[vp, vg, vi] 30 (0, 0)) := (hw.block tb (blk_lt k5a) (own_box o5a.pg.row k5a (by decide))).trans k5a
  have g6 := rr_owns_wr o5a.go hw (fun i hi => own_other o5a.go o5a.pg.row (by decide) hi)
  have i6 := rr_owns_wr o5a.ix hw (fun i hi => own_other o5a.ix o5a.pg.row (by decide) hi)
  have c : WrB (fun i => i = tb) w6 (w6.setCell ⟨tb, 0, none⟩ v') := ⟨rfl, rfl, rfl, by simp [World.setCell], fun k _ hk => Below.heap_setCell _ _ _ _ hk⟩
  have hN' : NOwn w6 B 51 5 v' (hs.length + 1) ((hs ++ [h]).map ppEl) := by rw [List.map_append]; exact hN
  have n7 := hN'.keep c (fun i hi e => by subst e; exact nbl_tree hN' k6 (by decide) (by decide) (by decide) hi)
  have g7 := rr_owns_wr g6 c (fun i hi e => by subst e; exact own_box g6 k6 (by decide) hi)
  have i7 := rr_owns_wr i6 c (fun i hi e => by subst e; exact own_box i6 k6 (by decide) hi)
  have k7 : (w6.setCell ⟨tb, 0, none⟩ v').heap[tb]? = some (.cells #[v', vg, vi] 30 (0, 0)) := by have := heap_set k6 0 v'; simpa using this
  refine ⟨v', w6, hrun, ⟨⟨by rw [List.length_append]; exact n7, g7, i7⟩, k7⟩, ?_, k6⟩
  have b1 : Below B w w6 := (hb.mono hB).trans ((bA.mono (Nat.le_trans hB hb.size)).trans ((Below.refl B _).grown hg (Nat.le_trans (Nat.le_trans hB hb.size) bA.size) (fun k hk => (o5a.pg.row.lt k hk).1)))
  exact b1.trans (WrB.below c (fun i e => by subst e; exact htb) (Nat.le_trans hB b1.size))
/-- A flag appended to a tree under way. -/
theorem TgSt.flag {w : World} {B tb : Nat} {vp vg vi : Value} {hs : List PpH} {gs : List Bool} {idx : List RefD} {q : Bool} (s : TgSt w B tb vp vg vi hs gs idx) (htb : B ≤ tb) (hz : gs.length ≤ 1000) (hB : B ≤ w.heap.size) :
    ∃ v' w6, (Builtin.append_ #[27, 27] 27 #[vg, .slice (some ⟨w.heap.size, 0, none⟩) 1 1]).run Try.prog (w.alloc (.cells #[.bool q] 4)) = .ok v' w6 ∧ TgSt (w6.setCell ⟨tb, 1, none⟩ v') B tb vp v' vi hs (gs ++ [q]) idx ∧ Below B w (w6.setCell ⟨tb, 1, none⟩ v') ∧ w6.heap[tb]? = some (.cells #[vp, vg, vi] 30 (0, 0)) := by
  obtain ⟨v', w6, hrun, hN, hg⟩ := b_app (q := q) s.own.go (by omega) hB
  have bA : Below w.heap.size w (w.alloc (.cells #[.bool q] 4)) := (Below.refl _ _).alloc (Nat.le_refl _) _
  have o5a := s.own.below bA
  have k5a := (bA.block tb (blk_lt s.box)).trans s.box
  have hw := WrB.of_grown hg
  have k6 : w6.heap[tb]? = some (.cells #[vp, vg, vi] 30 (0, 0)) := (hw.block tb (blk_lt k5a) (own_box o5a.go k5a (by decide))).trans k5a
  have p6 := o5a.pg.keep hw (fun i hi h => nbl_other o5a.pg o5a.go (by decide) (by decide) (by decide) h hi)
  have i6 := rr_owns_wr o5a.ix hw (fun i hi => own_other o5a.ix o5a.go (by decide) hi)
  have c : WrB (fun i => i = tb) w6 (w6.setCell ⟨tb, 1, none⟩ v') := ⟨rfl, rfl, rfl, by simp [World.setCell], fun k _ hk => Below.heap_setCell _ _ _ _ hk⟩
  have n7 := p6.keep c (fun i hi e => by subst e; exact nbl_tree p6 k6 (by decide) (by decide) (by decide) hi)
  have g7 := rr_owns_wr hN c (fun i hi e => by subst e; exact own_box hN k6 (by decide) hi)
  have i7 := rr_owns_wr i6 c (fun i hi e => by subst e; exact own_box i6 k6 (by decide) hi)
  have k7 : (w6.setCell ⟨tb, 1, none⟩ v').heap[tb]? = some (.cells #[vp, v', vi] 30 (0, 0)) := by have := heap_set k6 1 v'; simpa using this
  refine ⟨v', w6, hrun, ⟨⟨n7, g7, i7⟩, k7⟩, ?_, k6⟩
  have b1 : Below B w w6 := (bA.mono hB).trans ((Below.refl B _).grown hg (Nat.le_trans hB bA.size) (fun k hk => (o5a.go.lt k hk).1))
  exact b1.trans (WrB.below c (fun i e => by subst e; exact htb) (Nat.le_trans hB b1.size))
end Go.Proofs.Ytbhkmmdcdfjbkaa

namespace Go.Proofs.Ytbhkmmdcdfjbkaa
open Go.RowKit

def goneQ (qs : List (Option (Nat × PpH))) : List Bool := qs.map (fun q => q.isNone)
theorem own_keep {w w' : World} {C s n b : Nat} {t t' : TypeId} {v : Value} {cs : List Value} {cb : Array Value} (h : w.ownsRow C t s v n cs) (hb : w.heap[b]? = some (.cells cb t' (0, 0))) (ht : t ≠ t') (hw : WrB (fun i => i = b) w w') : w'.ownsRow C t s v n cs :=
  rr_owns_wr h hw (fun i hi e => by subst e; exact own_box h hb ht hi)
theorem set1_wr (w : World) (b j : Nat) (v : Value) : WrB (fun i => i = b) w (w.setCell ⟨b, j, none⟩ v) := ⟨rfl, rfl, rfl, by simp [World.setCell], fun k _ hk => Below.heap_setCell _ _ _ _ hk⟩
theorem hsl_len {hs : List PpH} {l : List PageD} (h : hs.map (·.X) = l) : hs.length = l.length := by rw [← h, List.length_map]
set_option maxRecDepth 100000 in
set_option maxHeartbeats 8000000 in
theorem tree_any (B mb : Nat) (qs : List (Option (Nat × PpH))) (idx : List RefD) (vp vi : Value) (w : World) (hF : TbF w B mb qs idx vp vi) (hT : Tre (qsP qs) idx) :
    Calls Try.prog 20 #[.pointer (some ⟨mb, 0, none⟩)] w fun e w' => ∃ a1 c1 a2 c2 a3 c3 hs, e = .returned (.agg #[.slice a1 qs.length c1, .slice a2 qs.length c2, .slice a3 idx.length c3]) ∧ TrOwn w' w.heap.size qs.length qs.length (.slice a1 qs.length c1) (.slice a2 qs.length c2) (.slice a3 idx.length c3) hs (goneQ qs) idx ∧ hs.map (·.X) = (qsP qs).map pgD ∧ Below w.heap.size w w' := by
  have hq30 : qs.length ≤ 30 := by have := hT.len.2; rw [qsP_len] at this; exact this
  have hi30 : idx.length ≤ 30 := Nat.le_trans hT.good.il hT.len.2
  have OKP := hide (show ∀ b x, some (b, x) ∈ qs → x.s0.n ≤ 100 ∧ x.s1.n ≤ 100 from fun b x hx => by
    have h1 : some x.X ∈ qsP qs := List.mem_map.2 ⟨_, hx, rfl⟩
    obtain ⟨k, hk⟩ := mem_getP h1
    obtain ⟨_, p2, p3, _⟩ := ok_parts (hT.ok _ _ hk)
    have r := hF.rows b x hx
    rw [← r.es.1, ← r.ds.1]
    omega)
  obtain ⟨ap, cp, ai, ci, hvp, hvi, hM⟩ := hF.table
  have hci : ai = none → ci = 0 := by
    have h := hF.own.ix
    rw [hvi] at h
    exact (rowK_own (B := B) h).2
  have b0 : ∀ o, Below w.heap.size w (w.alloc o) := fun o => (Below.refl _ _).alloc (Nat.le_refl _) _
  have c0 : w.cell? ⟨mb, 0, none⟩ = some (.slice ap qs.length cp) := (heap_at hM.box 0).1
  have c1 : w.cell? ⟨mb, 1, none⟩ = some (.slice ai idx.length ci) := (heap_at hM.box 1).1
  have d1 : ∀ o, (w.alloc o).cell? ⟨mb, 1, none⟩ = some (.slice ai idx.length ci) := fun o => ((b0 o).cell (p := ⟨mb, 1, none⟩) (cell_lt c1)).trans c1
  have OC := hide (fun (W : World) (ob : Nat) (hb : Below w.heap.size w W) (hc : W.cell? ⟨ob, 0, none⟩ = some (.slice ai idx.length ci)) => concatJ1 ob ai idx.length ci idx W hc (hM.below hb).ix hci (by omega))
  have F := hide hF
  have M := hide hM
  clear hF hT hM hvp hvi hci
  obtain ⟨N, hN⟩ : ∃ N, N = qs.length := ⟨_, rfl⟩
  rw [← hN] at c0 hq30 ⊢
  have HN := hide hN
  clear hN
  obtain ⟨IL, hIL⟩ : ∃ n, n = idx.length := ⟨_, rfl⟩
  rw [← hIL] at c1 d1 OC hi30 ⊢
  have HIL := hide hIL
  clear hIL
  go_enter Try.func20, Try.ntmps20
  go_wp2_with fail
  refine (unhide OC _ _ ((b0 _).alloc (by simp) _) (by simp)).mono ?_
  rintro e w1 ⟨v1, rfl, hO, hb1⟩
  obtain ⟨a3, k3, hv⟩ : ∃ a c, v1 = .slice a IL c := by
    rcases hO.2 with ⟨e, h0⟩ | ⟨g, cap, cur, e, _⟩
    · exact ⟨none, 0, by rw [e, unhide HIL, h0]⟩
    · exact ⟨_, _, by rw [e, unhide HIL]⟩
  subst hv
  have bW : Below w.heap.size w w1 := ((b0 _).alloc (by simp) _).trans (hb1.mono (by simp; omega))
  have R1 : w1.heap[w.heap.size]? = some (.cells #[.slice none 0 0, .slice none 0 0, .slice none 0 0] 30 (0, 0)) := (hb1.block w.heap.size (by simp <;> omega)).trans ((((Below.refl _ (w.alloc (.cells #[.slice none 0 0, .slice none 0 0, .slice none 0 0] 30))).alloc (Nat.le_refl _) _).block w.heap.size (by simp)).trans (heap_alloc_new _ _))
  have sz1 : w.heap.size + 2 ≤ w1.heap.size := by have := hb1.size; simp at this; omega
  have hO1 : JOwns w1 (w.heap.size + 1) (.slice a3 IL k3) idx := gd_base hO (by simp <;> omega)
  have S0 := hide (show TgSt (w1.alloc (.cells #[.slice none 0 0, .slice none 0 0, .slice a3 IL k3] 30)) (w.heap.size + 1) w1.heap.size (.slice none 0 0) (.slice none 0 0) (.slice a3 IL k3) [] [] idx from
    ⟨⟨NOwn.flat (World.ownsRow_nil _ _ _ _) rfl (fun e he => by cases he) (fun e he => by cases he), World.ownsRow_nil _ _ _ _, rb_ownsRow_below hO1 ((Below.refl _ _).alloc (Nat.le_refl _) _)⟩, heap_alloc_new _ _⟩)
  have K0 := hide (show Below (w.heap.size + 1) w1 (w1.alloc (.cells #[.slice none 0 0, .slice none 0 0, .slice a3 IL k3] 30)) from (Below.refl _ _).alloc (by omega) _)
  have e0 : ∀ o, (w1.alloc o).cell? ⟨mb, 0, none⟩ = some (.slice ap N cp) := fun o => (((Below.refl _ w1).alloc (Nat.le_refl _) o).cell (p := ⟨mb, 0, none⟩) (Nat.lt_of_lt_of_le (cell_lt c0) bW.size)).trans ((bW.cell (p := ⟨mb, 0, none⟩) (cell_lt c0)).trans c0)
  have SZ := hide (show ∀ u, Below (w.heap.size + 1) w1 u → w.heap.size + 1 ≤ u.heap.size from fun u h => by have := h.size; omega)
  have hlt1 : w.heap.size + 1 ≤ w1.heap.size := by omega
  clear hO hO1 hb1 OC d1 c1
  go_wp2_with fail
  generalize w1.heap.size = tb at *
  go_loopw [19] (fun i wr => ∃ (k : Nat) (vp' vg' : Value) (hs : List PpH), k ≤ N ∧ i = .int .i64 k ∧ Hid (TgSt wr (w.heap.size + 1) tb vp' vg' (.slice a3 IL k3) hs (goneQ (qs.take k)) idx) ∧ Hid (hs.map (·.X) = (qsP (qs.take k)).map pgD) ∧ Below (w.heap.size + 1) w1 wr) (fun i _ => N - (intOf i).toNat)
  case atStart => exact ⟨0, .slice none 0 0, .slice none 0 0, [], Nat.zero_le _, rfl, S0, rfl, unhide K0⟩
  case round =>
    clear S0 K0 e0
    obtain ⟨k, vp', vg', hs, hk, rfl, hS, hX, hK⟩ := hrel
    have bR : Below w.heap.size w wr := bW.trans (hK.mono (by omega))
    have hsl : hs.length = k := by rw [hsl_len (unhide hX), List.length_map, qsP_len, List.length_take, ← unhide HN]; omega
    have hgl : (goneQ (qs.take k)).length = k := by unfold goneQ; rw [List.length_map, List.length_take, ← unhide HN]; omega
    obtain ⟨a1, c1', hv1⟩ : ∃ a c, vp' = .slice a k c := by
      rcases (unhide hS).own.pg.row.2 with ⟨e, h0⟩ | ⟨g, cap, cur, e, _⟩
      · exact ⟨none, 0, by rw [e, ← hsl, h0]⟩
      · exact ⟨_, _, by rw [e, hsl]⟩
    obtain ⟨a2, c2', hv2⟩ : ∃ a c, vg' = .slice a k c := by
      rcases (unhide hS).own.go.2 with ⟨e, h0⟩ | ⟨g, cap, cur, e, _⟩
      · exact ⟨none, 0, by rw [e, ← hgl, h0]⟩
      · exact ⟨_, _, by rw [e, hgl]⟩
    subst hv1 hv2
    by_cases hlt : k < N
    case neg =>
      obtain rfl : k = N := by omega
      have ht : qs.take k = qs := List.take_of_length_le (by rw [← unhide HN]; exact Nat.le_refl _)
      rw [ht] at hS hX
      have t3 := (unhide hS).box
      have z0 := (heap_at t3 0).1
      have z1 := (heap_at t3 1).1
      have z2 := (heap_at t3 2).1
      have hR := (hK.block w.heap.size (Nat.lt_succ_self _)).trans R1
      have f0 := (heap_at hR 0).1
      have f1 := (heap_at hR 1).1
      have f2 := (heap_at hR 2).1
      have g0 := (heap_at hR 0).2
      have g1 := (heap_at hR 1).2
      have g2 := (heap_at hR 2).2
      have hgl2 : (goneQ qs).length = k := by rw [← ht]; exact hgl
      have OWN := (unhide hS).own
      rw [hsl, hgl2] at OWN
      have O1 := ((OWN.set (Nat.lt_succ_self w.heap.size) 0 (.slice a1 k c1')).set (Nat.lt_succ_self w.heap.size) 1 (.slice a2 k c2')).set (Nat.lt_succ_self w.heap.size) 2 (.slice a3 IL k3)
      have B1 := ((bR.setCell (p := ⟨w.heap.size, 0, none⟩) (Nat.le_refl _) (.slice a1 k c1')).setCell (p := ⟨w.heap.size, 1, none⟩) (Nat.le_refl _) (.slice a2 k c2')).setCell (p := ⟨w.heap.size, 2, none⟩) (Nat.le_refl _) (.slice a3 IL k3)
      have RO := hide (O1.dn (Nat.le_succ _))
      have RB := hide B1
      clear t3 hR OWN O1 B1 hS ht hK bR
      go_wp2_with fail
      refine bodyPost_ret (v := .agg #[.slice a1 k c1', .slice a2 k c2', .slice a3 IL k3]) (by simp [results, Try.results20, go_sem, *]) rfl ?_
      exact ⟨a1, c1', a2, c2', a3, k3, hs, rfl, unhide RO, unhide hX, unhide RB⟩
    have hkq : k < qs.length := by rw [← unhide HN]; exact hlt
    have TK := hide (rb_take_snoc qs k hkq)
    have GQ := hide (show goneQ (qs.take (k + 1)) = goneQ (qs.take k) ++ [qs[k].isNone] by rw [unhide TK]; unfold goneQ; rw [List.map_append]; rfl)
    have XQ := hide (show ∀ h : PpH, h.X = pgD ((qs[k]).map fun x => x.2.X) → (hs ++ [h]).map (·.X) = (qsP (qs.take (k + 1))).map pgD from fun h e => by
      rw [unhide TK, qsP_snoc, List.map_append, List.map_append, unhide hX]
      simp [e])
    obtain ⟨b, off, hap, hc⟩ := ((unhide M).below bR).row.at (j := k) (u := ptrQ qs[k]) (by rw [List.getElem?_map, List.getElem?_eq_getElem hkq]; rfl)
    subst hap
    have hBs : w.heap.size + 1 ≤ wr.heap.size := unhide SZ _ hK
    have MEM := hide (List.getElem_mem hkq)
    generalize qs[k] = q at *
    have htb : w.heap.size + 1 ≤ tb := hlt1
    have tbx := (heap_at (unhide hS).box 0).1
    cases q with
    | none =>
      unfold ptrQ at hc
      simp only [Option.map_none] at hc
      have B5 : Below wr.heap.size wr (wr.alloc (.cells #[.string ⟨#[]⟩, .string ⟨#[]⟩, .int .i64 (-1), .slice none 0 0, .slice none 0 0] 51)) := (Below.refl _ _).alloc (Nat.le_refl _) _
      have HE : (wr.alloc (.cells #[.string ⟨#[]⟩, .string ⟨#[]⟩, .int .i64 (-1), .slice none 0 0, .slice none 0 0] 51)).ownsRow wr.heap.size 37 2 (.slice none 0 0) 0 (ecs []) := World.ownsRow_nil _ _ _ _
      have HD : (wr.alloc (.cells #[.string ⟨#[]⟩, .string ⟨#[]⟩, .int .i64 (-1), .slice none 0 0, .slice none 0 0] 51)).ownsRow wr.heap.size 86 4 (.slice none 0 0) 0 (dcs []) := World.ownsRow_nil _ _ _ _
      obtain ⟨vP, w6, hrP, S6, b6, k6⟩ := (unhide hS).page (h := (⟨⟨⟨#[]⟩, ⟨#[]⟩, -1, [], []⟩, ⟨none, 0, 0⟩, ⟨none, 0, 0⟩⟩ : PpH)) B5 HE HD htb (by omega) hBs
      obtain ⟨aP, cP, hvP⟩ : ∃ a c, vP = .slice a (k + 1) c := by
        rcases S6.own.pg.row.2 with ⟨e, h0⟩ | ⟨g, cap, cur, e, _⟩
        · rw [List.length_append, hsl] at h0; exact absurd h0 (by simp)
        · exact ⟨_, _, by rw [e, List.length_append, hsl]; rfl⟩
      subst hvP
      obtain ⟨vG, w7, hrG, S7, b7, k7⟩ := S6.flag (q := true) htb (by omega) (Nat.le_trans hBs b6.size)
      obtain ⟨aG, cG, hvG⟩ : ∃ a c, vG = .slice a (k + 1) c := by
        rcases S7.own.go.2 with ⟨e, h0⟩ | ⟨g, cap, cur, e, _⟩
        · rw [List.length_append, hgl] at h0; exact absurd h0 (by simp)
        · exact ⟨_, _, by rw [e, List.length_append, hgl]; rfl⟩
      subst hvG
      have x0 := (heap_at k6 0).1
      have x0f := (heap_at k6 0).2
      have x1 := (heap_at S6.box 1).1
      have x1g := (heap_at k7 1).1
      have x1f := (heap_at k7 1).2
      simp only at hrP
      have S8 := hide (show TgSt (w7.setCell ⟨tb, 1, none⟩ (.slice aG (k + 1) cG)) (w.heap.size + 1) tb (.slice aP (k + 1) cP) (.slice aG (k + 1) cG) (.slice a3 IL k3) (hs ++ [(⟨⟨⟨#[]⟩, ⟨#[]⟩, -1, [], []⟩, ⟨none, 0, 0⟩, ⟨none, 0, 0⟩⟩ : PpH)]) (goneQ (qs.take (k + 1))) idx by rw [unhide GQ]; exact S7)
      have X8 := hide (unhide XQ (⟨⟨⟨#[]⟩, ⟨#[]⟩, -1, [], []⟩, ⟨none, 0, 0⟩, ⟨none, 0, 0⟩⟩ : PpH) rfl)
      have B8 := hide (hK.trans (b6.trans b7))
      have tb5 := (B5.cell (p := ⟨tb, 0, none⟩) (cell_lt tbx)).trans tbx
      clear S6 S7 b6 b7 HE HD hS hX GQ XQ TK MEM
      go_upto_region 10 with fail
      have P5 := heap_alloc_new wr (.cells #[.string ⟨#[]⟩, .string ⟨#[]⟩, .int .i64 (-1), .slice none 0 0, .slice none 0 0] 51)
      obtain ⟨o0, o1, o2, o3, o4⟩ := pg_cells5 P5
      generalize wr.alloc (.cells #[.string ⟨#[]⟩, .string ⟨#[]⟩, .int .i64 (-1), .slice none 0 0, .slice none 0 0] 51) = W5 at *
      generalize wr.heap.size = pbx at *
      go_upto_region 11 with (at_builtin; refine wpAppE rfl _ _ 26 rfl _ _ (.slice aP (k + 1) cP) w6 rfl rfl hrP ?_)
      generalize w6.setCell ⟨tb, 0, none⟩ (.slice aP (k + 1) cP) = U6 at *
      go_wp2_with (at_builtin; refine wpAppE rfl _ _ 27 rfl _ _ (.slice aG (k + 1) cG) w7 rfl rfl hrG ?_)
      go_roundw
      case rel => exact ⟨k + 1, _, _, _, by omega, by go_num, S8, X8, unhide B8⟩
      case measure => simp [intOf]; omega
    | some pq =>
      obtain ⟨pb, x⟩ := pq
      have hmem : some (pb, x) ∈ qs := unhide MEM
      have PB := (((unhide M).below bR).pgs pb x hmem).1
      have R := (((unhide F).below bR).rows pb x hmem)
      have hn := unhide OKP pb x hmem
      unfold ptrQ at hc
      simp only [Option.map_some] at hc
      have q0 := (heap_at PB 0).1
      have q1 := (heap_at PB 1).1
      have q2 := (heap_at PB 2).1
      have q3 := (heap_at PB 3).1
      have q4 := (heap_at PB 4).1
      have CE := hide (fun (W : World) (ob : Nat) (hb : Below wr.heap.size wr W) (hc : W.cell? ⟨ob, 0, none⟩ = some (.slice x.s0.a x.s0.n x.s0.c)) => concatE1 ob x.s0.a x.s0.n x.s0.c x.X.es W hc (R.es.below hb) R.ce (by omega))
      have CD := hide (fun (W : World) (ob : Nat) (hb : Below wr.heap.size wr W) (hc : W.cell? ⟨ob, 0, none⟩ = some (.slice x.s1.a x.s1.n x.s1.c)) => concatD1 ob x.s1.a x.s1.n x.s1.c x.X.ds W hc (R.ds.below hb) R.cd (by omega))
      clear R hmem MEM hn
      obtain ⟨X, ⟨a0, n0, k0⟩, ⟨a1', n1, k1⟩⟩ := x
      simp only at q0 q1 q2 q3 q4 CE CD XQ
      have ba : ∀ o, Below wr.heap.size wr (wr.alloc o) := fun o => (Below.refl _ _).alloc (Nat.le_refl _) _
      have r0 : ∀ o, (wr.alloc o).cell? ⟨pb, 0, none⟩ = some (.string X.lo) := fun o => ((ba o).cell (p := ⟨pb, 0, none⟩) (cell_lt q0)).trans q0
      have r1 : ∀ o, (wr.alloc o).cell? ⟨pb, 1, none⟩ = some (.string X.hi) := fun o => ((ba o).cell (p := ⟨pb, 1, none⟩) (cell_lt q1)).trans q1
      have r2 : ∀ o, (wr.alloc o).cell? ⟨pb, 2, none⟩ = some (.int .i64 X.r) := fun o => ((ba o).cell (p := ⟨pb, 2, none⟩) (cell_lt q2)).trans q2
      have r3 : ∀ o, (wr.alloc o).cell? ⟨pb, 3, none⟩ = some (.slice a0 n0 k0) := fun o => ((ba o).cell (p := ⟨pb, 3, none⟩) (cell_lt q3)).trans q3
      have r4 : ∀ o, (wr.alloc o).cell? ⟨pb, 4, none⟩ = some (.slice a1' n1 k1) := fun o => ((ba o).cell (p := ⟨pb, 4, none⟩) (cell_lt q4)).trans q4
      have K1 := heap_alloc_new wr (.cells #[.string X.lo, .string X.hi, .int .i64 X.r, .slice a0 n0 k0, .slice a1' n1 k1] 51)
      have hpb := blk_lt PB
      go_upto_region 8 with fail
      have B1 := ba (.cells #[.string X.lo, .string X.hi, .int .i64 X.r, .slice a0 n0 k0, .slice a1' n1 k1] 51)
      have s3 := r3 (.cells #[.string X.lo, .string X.hi, .int .i64 X.r, .slice a0 n0 k0, .slice a1' n1 k1] 51)
      clear r0 r1 r2 r3 r4 ba q0 q1 q2 q3
      have zx : wr.heap.size < (wr.alloc (.cells #[.string X.lo, .string X.hi, .int .i64 X.r, .slice a0 n0 k0, .slice a1' n1 k1] 51)).heap.size := by simp
      generalize wr.alloc (.cells #[.string X.lo, .string X.hi, .int .i64 X.r, .slice a0 n0 k0, .slice a1' n1 k1] 51) = W1 at *
      go_wp2_with fail
      refine (unhide CE _ _ (B1.trans ((Below.refl _ _).alloc (Nat.le_refl _) _ |>.mono B1.size)) (by simp)).mono ?_
      rintro e w3 ⟨v3, rfl, o3, b3⟩
      obtain ⟨aB, nB, cB, hv3⟩ : ∃ a n c, v3 = .slice a n c := by
        rcases o3.2 with ⟨e, _⟩ | ⟨_, _, _, e, _⟩
        · exact ⟨_, _, _, e⟩
        · exact ⟨_, _, _, e⟩
      subst hv3
      have bb3 : Below W1.heap.size W1 w3 := ((Below.refl _ _).alloc (Nat.le_refl _) _).trans (b3.mono (by simp))
      have K3 := (bb3.block wr.heap.size zx).trans K1
      have o3' := gd_base o3 (C := wr.heap.size) (by simp; omega)
      have B3 := B1.trans (bb3.mono B1.size)
      have c33 := (heap_at K3 3).1
      have f33 := (heap_at K3 3).2
      have W3w := set1_wr w3 wr.heap.size 3 (.slice aB nB cB)
      have K3' : (w3.setCell ⟨wr.heap.size, 3, none⟩ (.slice aB nB cB)).heap[wr.heap.size]? = some (.cells #[.string X.lo, .string X.hi, .int .i64 X.r, .slice aB nB cB, .slice a1' n1 k1] 51 (0, 0)) := by have := heap_set K3 3 (.slice aB nB cB); simpa using this
      have O3 := own_keep o3' K3 (by decide) W3w
      have B3' : Below wr.heap.size wr (w3.setCell ⟨wr.heap.size, 3, none⟩ (.slice aB nB cB)) := B3.trans (WrB.below W3w (fun i e => by omega) B3.size)
      have s4 := (B3'.cell (p := ⟨pb, 4, none⟩) hpb).trans q4
      clear CE o3 b3 bb3 K1 o3' B3 W3w s3 q4 B1
      go_upto_region 9 with fail
      clear c33 f33 K3
      generalize w3.setCell ⟨wr.heap.size, 3, none⟩ (.slice aB nB cB) = U3 at *
      go_wp2_with fail
      refine (unhide CD _ _ (B3'.trans ((Below.refl _ _).alloc (Nat.le_refl _) _ |>.mono B3'.size)) (by simp)).mono ?_
      rintro e w4 ⟨v4, rfl, o4, b4⟩
      obtain ⟨aC, nC, cC, hv4⟩ : ∃ a n c, v4 = .slice a n c := by
        rcases o4.2 with ⟨e, _⟩ | ⟨_, _, _, e, _⟩
        · exact ⟨_, _, _, e⟩
        · exact ⟨_, _, _, e⟩
      subst hv4
      have bb4 : Below U3.heap.size U3 w4 := ((Below.refl _ _).alloc (Nat.le_refl _) _).trans (b4.mono (by simp))
      have K4 := (bb4.block wr.heap.size (blk_lt K3')).trans K3'
      have o4' := gd_base o4 (C := wr.heap.size) (by have := B3'.size; simp; omega)
      have O3b := rb_ownsRow_below O3 bb4
      have B4 := B3'.trans (bb4.mono B3'.size)
      have c44 := (heap_at K4 4).1
      have f44 := (heap_at K4 4).2
      have W4w := set1_wr w4 wr.heap.size 4 (.slice aC nC cC)
      have K5 : (w4.setCell ⟨wr.heap.size, 4, none⟩ (.slice aC nC cC)).heap[wr.heap.size]? = some (.cells #[.string X.lo, .string X.hi, .int .i64 X.r, .slice aB nB cB, .slice aC nC cC] 51 (0, 0)) := by have := heap_set K4 4 (.slice aC nC cC); simpa using this
      have HE := own_keep O3b K4 (by decide) W4w
      have HD := own_keep o4' K4 (by decide) W4w
      have B5 : Below wr.heap.size wr (w4.setCell ⟨wr.heap.size, 4, none⟩ (.slice aC nC cC)) := B4.trans (WrB.below W4w (fun i e => by omega) B4.size)
      obtain ⟨vP, w6, hrP, S6, b6, k6⟩ := (unhide hS).page (h := (⟨X, ⟨aB, nB, cB⟩, ⟨aC, nC, cC⟩⟩ : PpH)) B5 HE HD htb (by omega) hBs
      obtain ⟨aP, cP, hvP⟩ : ∃ a c, vP = .slice a (k + 1) c := by
        rcases S6.own.pg.row.2 with ⟨e, h0⟩ | ⟨g, cap, cur, e, _⟩
        · rw [List.length_append, hsl] at h0; exact absurd h0 (by simp)
        · exact ⟨_, _, by rw [e, List.length_append, hsl]; rfl⟩
      subst hvP
      obtain ⟨vG, w7, hrG, S7, b7, k7⟩ := S6.flag (q := false) htb (by omega) (Nat.le_trans hBs b6.size)
      obtain ⟨aG, cG, hvG⟩ : ∃ a c, vG = .slice a (k + 1) c := by
        rcases S7.own.go.2 with ⟨e, h0⟩ | ⟨g, cap, cur, e, _⟩
        · rw [List.length_append, hgl] at h0; exact absurd h0 (by simp)
        · exact ⟨_, _, by rw [e, List.length_append, hgl]; rfl⟩
      subst hvG
      have x0 := (heap_at k6 0).1
      have x0f := (heap_at k6 0).2
      have x1 := (heap_at S6.box 1).1
      have x1g := (heap_at k7 1).1
      have x1f := (heap_at k7 1).2
      simp only at hrP
      have S8 := hide (show TgSt (w7.setCell ⟨tb, 1, none⟩ (.slice aG (k + 1) cG)) (w.heap.size + 1) tb (.slice aP (k + 1) cP) (.slice aG (k + 1) cG) (.slice a3 IL k3) (hs ++ [(⟨X, ⟨aB, nB, cB⟩, ⟨aC, nC, cC⟩⟩ : PpH)]) (goneQ (qs.take (k + 1))) idx by rw [unhide GQ]; exact S7)
      have X8 := hide (unhide XQ (⟨X, ⟨aB, nB, cB⟩, ⟨aC, nC, cC⟩⟩ : PpH) rfl)
      have B8 := hide (hK.trans (b6.trans b7))
      have tb5 := (B5.cell (p := ⟨tb, 0, none⟩) (cell_lt tbx)).trans tbx
      clear S6 S7 b6 b7 HE HD hS hX GQ XQ TK CD o4 b4 bb4 o4' O3b B4 W4w O3 B3' s4
      go_upto_region 10 with fail
      obtain ⟨o0, o1, o2, o3, o4⟩ := pg_cells5 K5
      clear c44 f44 K4 K3'
      generalize w4.setCell ⟨wr.heap.size, 4, none⟩ (.slice aC nC cC) = W5 at *
      generalize wr.heap.size = pbx at *
      go_upto_region 11 with (at_builtin; refine wpAppE rfl _ _ 26 rfl _ _ (.slice aP (k + 1) cP) w6 rfl rfl hrP ?_)
      generalize w6.setCell ⟨tb, 0, none⟩ (.slice aP (k + 1) cP) = U6 at *
      go_wp2_with (at_builtin; refine wpAppE rfl _ _ 27 rfl _ _ (.slice aG (k + 1) cG) w7 rfl rfl hrG ?_)
      go_roundw
      case rel => exact ⟨k + 1, _, _, _, by omega, by go_num, S8, X8, unhide B8⟩
      case measure => simp [intOf]; omega
end Go.Proofs.Ytbhkmmdcdfjbkaa

namespace Go.Proofs.Ytbhkmmdcdfjbkaa
open Go.RowKit

def PB (w : World) (b : Nat) (lo hi : ByteArray) (r : Int) : Prop := w.heap[b]? = some (.cells #[.string lo, .string hi, .int .i64 r, .slice none 0 0, .slice none 0 0] 51 (0, 0))
def BB (w : World) (b : Nat) (x : Bool) : Prop := w.heap[b]? = some (.cells #[.bool x] 4 (0, 0))
def RB (w : World) (b : Nat) (lo : ByteArray) (id : Int) : Prop := w.heap[b]? = some (.cells #[.string lo, .int .i64 id] 53 (0, 0))
theorem hlt {w : World} {b : Nat} {o : Obj} (h : w.heap[b]? = some o) : b < w.heap.size := (Array.getElem?_eq_some_iff.1 h).1
theorem PB.below {w w' : World} {b : Nat} {lo hi : ByteArray} {r : Int} (h : PB w b lo hi r) (hb : Below w.heap.size w w') : PB w' b lo hi r := (hb.block b (hlt h)).trans h
theorem BB.below {w w' : World} {b : Nat} {x : Bool} (h : BB w b x) (hb : Below w.heap.size w w') : BB w' b x := (hb.block b (hlt h)).trans h
theorem RB.below {w w' : World} {b : Nat} {lo : ByteArray} {id : Int} (h : RB w b lo id) (hb : Below w.heap.size w w') : RB w' b lo id := (hb.block b (hlt h)).trans h
theorem PB.cells {w : World} {b : Nat} {lo hi : ByteArray} {r : Int} (h : PB w b lo hi r) : w.cell? ⟨b, 0, none⟩ = some (.string lo) ∧ w.cell? ⟨b, 1, none⟩ = some (.string hi) ∧ w.cell? ⟨b, 2, none⟩ = some (.int .i64 r) ∧ w.cell? ⟨b, 3, none⟩ = some (.slice none 0 0) ∧ w.cell? ⟨b, 4, none⟩ = some (.slice none 0 0) := ⟨heap_cell h 0, heap_cell h 1, heap_cell h 2, heap_cell h 3, heap_cell h 4⟩
theorem BB.cell {w : World} {b : Nat} {x : Bool} (h : BB w b x) : w.cell? ⟨b, 0, none⟩ = some (.bool x) := heap_cell h 0
theorem RB.cells {w : World} {b : Nat} {lo : ByteArray} {id : Int} (h : RB w b lo id) : w.cell? ⟨b, 0, none⟩ = some (.string lo) ∧ w.cell? ⟨b, 1, none⟩ = some (.int .i64 id) := ⟨heap_cell h 0, heap_cell h 1⟩

/-- The value of a tree of one page. -/
abbrev tv (p g i : Nat) : Value := .agg #[.slice (some ⟨p, 0, none⟩) 1 1, .slice (some ⟨g, 0, none⟩) 1 1, .slice (some ⟨i, 0, none⟩) 1 1]
/-- A tree of one page in memory. -/
structure T1 (w : World) (p g i : Nat) (lo hi : ByteArray) (r : Int) (x : Bool) (l2 : ByteArray) (id : Int) : Prop where
  pg : PB w p lo hi r
  gn : BB w g x
  ix : RB w i l2 id
  pg_gn : p ≠ g
  pg_ix : p ≠ i
  gn_ix : g ≠ i
theorem T1.below {w w' : World} {p g i : Nat} {lo hi : ByteArray} {r : Int} {x : Bool} {l2 : ByteArray} {id : Int} (h : T1 w p g i lo hi r x l2 id) (hb : Below w.heap.size w w') : T1 w' p g i lo hi r x l2 id :=
  ⟨h.pg.below hb, h.gn.below hb, h.ix.below hb, h.pg_gn, h.pg_ix, h.gn_ix⟩
end Go.Proofs.Ytbhkmmdcdfjbkaa

namespace Go.Proofs.Ytbhkmmdcdfjbkaa
open Go.RowKit

theorem PB.set1 {w : World} {b : Nat} {lo hi : ByteArray} {r : Int} (h : PB w b lo hi r) (x : ByteArray) : PB (w.setCell ⟨b, 1, none⟩ (.string x)) b lo x r := by
  have := heap_set h 1 (.string x)
  simpa [PB] using this
theorem PB.set2 {w : World} {b : Nat} {lo hi : ByteArray} {r : Int} (h : PB w b lo hi r) (x : Int) : PB (w.setCell ⟨b, 2, none⟩ (.int .i64 x)) b lo hi x := by
  have := heap_set h 2 (.int .i64 x)
  simpa [PB] using this
theorem BB.set {w : World} {b : Nat} {y : Bool} (h : BB w b y) (x : Bool) : BB (w.setCell ⟨b, 0, none⟩ (.bool x)) b x := by
  have := heap_set h 0 (.bool x)
  simpa [BB] using this
theorem RB.set1 {w : World} {b : Nat} {lo : ByteArray} {id : Int} (h : RB w b lo id) (x : Int) : RB (w.setCell ⟨b, 1, none⟩ (.int .i64 x)) b lo x := by
  have := heap_set h 1 (.int .i64 x)
  simpa [RB] using this
/-- The n-th mark as a text. -/
abbrev mk (n : Nat) : ByteArray := mt n ByteArray.empty

end Go.Proofs.Ytbhkmmdcdfjbkaa

namespace Go.Proofs.Ytbhkmmdcdfjbkaa
open Go.RowKit

/-- What a call of NewTree leaves. -/
def NewRes (w : World) (e : Ending) (w' : World) : Prop := ∃ p g i, e = .returned (tv p g i) ∧ T1 w' p g i ⟨#[]⟩ ⟨#[]⟩ (-1) false ⟨#[]⟩ 0 ∧ (w.heap.size ≤ p ∧ w.heap.size ≤ g ∧ w.heap.size ≤ i) ∧ Below w.heap.size w w'
/-- Three cells of a block stored anew. -/
abbrev set3 (w : World) (b : Nat) (v0 v1 v2 : Value) : World := ((w.setCell ⟨b, 0, none⟩ v0).setCell ⟨b, 1, none⟩ v1).setCell ⟨b, 2, none⟩ v2
theorem T1.wr {w w' : World} {p g i b : Nat} {lo hi : ByteArray} {r : Int} {x : Bool} {l2 : ByteArray} {id : Int} (h : T1 w p g i lo hi r x l2 id) (hw : Wr (fun j => j = b) w w') (h1 : p ≠ b) (h2 : g ≠ b) (h3 : i ≠ b) : T1 w' p g i lo hi r x l2 id :=
  ⟨(hw.block p (hlt h.pg) h1).trans h.pg, (hw.block g (hlt h.gn) h2).trans h.gn, (hw.block i (hlt h.ix) h3).trans h.ix, h.pg_gn, h.pg_ix, h.gn_ix⟩
/-- The four blocks of a new tree. -/
theorem four_new (w : World) (v0 v1 v2 : Value) : ∃ W, W = (((w.alloc (.cells #[v0, v1, v2] 30)).alloc (.cells #[.string ⟨#[]⟩, .string ⟨#[]⟩, .int .i64 (-1), .slice none 0 0, .slice none 0 0] 51)).alloc (.cells #[.bool false] 4)).alloc (.cells #[.string ⟨#[]⟩, .int .i64 0] 53) ∧
    T1 W (w.heap.size + 1) (w.heap.size + 1 + 1) (w.heap.size + 1 + 1 + 1) ⟨#[]⟩ ⟨#[]⟩ (-1) false ⟨#[]⟩ 0 ∧ Below w.heap.size w W := by
  obtain ⟨W1, h1⟩ : ∃ W1, W1 = w.alloc (.cells #[v0, v1, v2] 30) := ⟨_, rfl⟩
  have z1 : W1.heap.size = w.heap.size + 1 := by rw [h1]; simp
  have b1 : Below w.heap.size w W1 := by rw [h1]; exact (Below.refl _ _).alloc (Nat.le_refl _) _
  obtain ⟨W2, h2⟩ : ∃ W2, W2 = W1.alloc (.cells #[.string ⟨#[]⟩, .string ⟨#[]⟩, .int .i64 (-1), .slice none 0 0, .slice none 0 0] 51) := ⟨_, rfl⟩
  have z2 : W2.heap.size = w.heap.size + 1 + 1 := by rw [h2]; simp [z1]
  have k2 : PB W2 (w.heap.size + 1) ⟨#[]⟩ ⟨#[]⟩ (-1) := by rw [h2]; exact heap_new z1 _ _
  have b2 : Below W1.heap.size W1 W2 := by rw [h2]; exact (Below.refl _ _).alloc (Nat.le_refl _) _
  obtain ⟨W3, h3⟩ : ∃ W3, W3 = W2.alloc (.cells #[.bool false] 4) := ⟨_, rfl⟩
  have z3 : W3.heap.size = w.heap.size + 1 + 1 + 1 := by rw [h3]; simp [z2]
  have k3 : BB W3 (w.heap.size + 1 + 1) false := by rw [h3]; exact heap_new z2 _ _
  have b3 : Below W2.heap.size W2 W3 := by rw [h3]; exact (Below.refl _ _).alloc (Nat.le_refl _) _
  obtain ⟨W4, h4⟩ : ∃ W4, W4 = W3.alloc (.cells #[.string ⟨#[]⟩, .int .i64 0] 53) := ⟨_, rfl⟩
  have k4 : RB W4 (w.heap.size + 1 + 1 + 1) ⟨#[]⟩ 0 := by rw [h4]; exact heap_new z3 _ _
  have b4 : Below W3.heap.size W3 W4 := by rw [h4]; exact (Below.refl _ _).alloc (Nat.le_refl _) _
  refine ⟨W4, by rw [h4, h3, h2, h1], ⟨(k2.below b3).below b4, k3.below b4, k4, by omega, by omega, by omega⟩, ?_⟩
  exact b1.trans ((b2.mono (by omega)).trans ((b3.mono (by omega)).trans (b4.mono (by omega))))
set_option maxRecDepth 100000 in
set_option maxHeartbeats 4000000 in
theorem implNewTree_any (w : World) : Calls Try.prog 5 #[] w fun e w' => NewRes w e w' := by
  obtain ⟨W, hW, hT, b0⟩ := four_new w (.slice (some ⟨w.heap.size + 1, 0, none⟩) 1 1) (.slice (some ⟨w.heap.size + 1 + 1, 0, none⟩) 1 1) (.slice (some ⟨w.heap.size + 1 + 1 + 1, 0, none⟩) 1 1)
  have HT := hide hT
  have HW := hide hW
  clear hT hW
  go_enter Try.func5, Try.ntmps5
  go_wp2_with fail
  refine bodyPost_ret (v := tv (w.heap.size + 1) (w.heap.size + 1 + 1) (w.heap.size + 1 + 1 + 1)) (by simp [results, Try.results5, go_sem]) rfl ?_
  rw [← unhide HW]
  exact ⟨_, _, _, rfl, unhide HT, ⟨by omega, by omega, by omega⟩, b0⟩
set_option maxRecDepth 100000 in
set_option maxHeartbeats 4000000 in
theorem l05New_any (w : World) : Calls Try.prog 21 #[] w fun e w' => NewRes w e w' := by
  obtain ⟨W, hW, hT, b0⟩ := four_new w (.slice (some ⟨w.heap.size + 1, 0, none⟩) 1 1) (.slice (some ⟨w.heap.size + 1 + 1, 0, none⟩) 1 1) (.slice (some ⟨w.heap.size + 1 + 1 + 1, 0, none⟩) 1 1)
  have HT := hide hT
  have HW := hide hW
  clear hT hW
  go_enter Try.func21, Try.ntmps21
  go_wp2_with fail
  refine bodyPost_ret (v := tv (w.heap.size + 1) (w.heap.size + 1 + 1) (w.heap.size + 1 + 1 + 1)) (by simp [results, Try.results21, go_sem]) rfl ?_
  rw [← unhide HW]
  exact ⟨_, _, _, rfl, unhide HT, ⟨by omega, by omega, by omega⟩, b0⟩
end Go.Proofs.Ytbhkmmdcdfjbkaa

namespace Go.Proofs.Ytbhkmmdcdfjbkaa
open Go.RowKit

/-- Pages, index and codes behind acts. -/
structure RunS where
  ps : List (Option PageD)
  idx : List RefD
  codes : List Int
def runS (acts : List AcT) : RunS := acts.foldl (fun s a => ⟨(stepT s.ps s.idx a).ps, (stepT s.ps s.idx a).idx, s.codes ++ [(stepT s.ps s.idx a).code]⟩) ⟨newT, [⟨⟨#[]⟩, 0⟩], []⟩
theorem runS_snoc (acts : List AcT) (a : AcT) : runS (acts ++ [a]) = ⟨(stepT (runS acts).ps (runS acts).idx a).ps, (stepT (runS acts).ps (runS acts).idx a).idx, (runS acts).codes ++ [(stepT (runS acts).ps (runS acts).idx a).code]⟩ := by
  unfold runS
  rw [List.foldl_append]
  rfl
theorem runS_take (acts : List AcT) (k : Nat) (h : k < acts.length) : runS (acts.take (k + 1)) = ⟨(stepT (runS (acts.take k)).ps (runS (acts.take k)).idx acts[k]).ps, (stepT (runS (acts.take k)).ps (runS (acts.take k)).idx acts[k]).idx, (runS (acts.take k)).codes ++ [(stepT (runS (acts.take k)).ps (runS (acts.take k)).idx acts[k]).code]⟩ := by
  rw [rb_take_snoc acts k h, runS_snoc]
theorem runS_tre (acts : List AcT) : ∀ k, k ≤ acts.length → Tre (runS (acts.take k)).ps (runS (acts.take k)).idx ∧ (runS (acts.take k)).codes.length = k
  | 0, _ => ⟨newT_tre, rfl⟩
  | k + 1, h => by
    obtain ⟨t, l⟩ := runS_tre acts k (by omega)
    rw [runS_take acts k (by omega)]
    exact ⟨stepT_tre t _, by rw [List.length_append, l]; rfl⟩
/-- The one page of a new tree. -/
def newH : PpH := ⟨⟨⟨#[]⟩, ⟨#[]⟩, -1, [], []⟩, ⟨none, 0, 0⟩, ⟨none, 0, 0⟩⟩
theorem new_here : (trd [newH] [false] [⟨⟨#[]⟩, 0⟩]).here = newT := rfl
theorem new_okT : okT (trd [newH] [false] [⟨⟨#[]⟩, 0⟩]) = true := by decide +kernel
theorem new_in {w : World} {p g i : Nat} (h : T1 w p g i ⟨#[]⟩ ⟨#[]⟩ (-1) false ⟨#[]⟩ 0) : TrIn w (some ⟨p, 0, none⟩) 1 1 (some ⟨g, 0, none⟩) 1 1 (some ⟨i, 0, none⟩) 1 [newH] [false] [⟨⟨#[]⟩, 0⟩] := by
  have hp := h.pg
  have hg := h.gn
  have hi := h.ix
  refine ⟨⟨⟨_, _, rfl, fun j u hu => ?_⟩, rfl, fun e he => ?_, fun e he x hx => ?_⟩, ⟨_, _, rfl, fun j u hu => ?_⟩, rfl, ⟨rfl, fun j hj => ?_⟩⟩
  · exact ⟨p, 0, rfl, by rw [Nat.zero_add, (heap_at hp j).1]; simpa [newH, ppEl] using hu⟩
  · rw [List.mem_singleton.1 he]; rfl
  · rw [List.mem_singleton.1 he] at hx
    simp only [newH, ppEl, List.mem_cons, List.not_mem_nil, or_false] at hx
    rcases hx with rfl | rfl
    · exact ⟨none, 0, rfl, fun j u hu => by simp [ecs] at hu⟩
    · exact ⟨none, 0, rfl, fun j u hu => by simp [dcs] at hu⟩
  · exact ⟨g, 0, rfl, by rw [Nat.zero_add, (heap_at hg j).1]; simpa using hu⟩
  · obtain rfl : j = 0 := by simpa using hj
    exact ⟨i, 0, rfl, (heap_at hi 0).1, (heap_at hi 1).1⟩
/-- The table of a new tree. -/
theorem newTable_any {w : World} {p g i : Nat} (h : T1 w p g i ⟨#[]⟩ ⟨#[]⟩ (-1) false ⟨#[]⟩ 0) :
    Calls Try.prog 13 #[tv p g i] w fun e w' => ∃ mb qs vp vi, e = .returned (.tuple #[.pointer (some ⟨mb, 0, none⟩), .bool true]) ∧ TbF w' w.heap.size mb qs [⟨⟨#[]⟩, 0⟩] vp vi ∧ qsP qs = newT ∧ Below w.heap.size w w' := by
  refine (tableOf_any (some ⟨p, 0, none⟩) 1 1 (some ⟨g, 0, none⟩) 1 1 (some ⟨i, 0, none⟩) 1 1 [newH] [false] [⟨⟨#[]⟩, 0⟩] w (new_in h) (fun e => by cases e)).mono ?_
  rintro e w' ⟨v, rfl, hb, ht⟩
  obtain ⟨mb, qs, vp, vi, rfl, ho, hq, hm⟩ := ht new_okT
  rw [new_okT]
  refine ⟨mb, qs, vp, vi, rfl, ⟨ho, fun b x hx => ?_⟩, hq.trans new_here, hb⟩
  rw [List.mem_singleton.1 (hm b x hx).1]
  exact ⟨⟨rfl, fun i hi => absurd hi (Nat.not_lt_zero _)⟩, ⟨rfl, fun i hi => absurd hi (Nat.not_lt_zero _)⟩, (fun ad e => by cases e), (fun ad e => by cases e), fun _ => rfl, fun _ => rfl⟩
theorem TbOwn.geB {w : World} {B mb : Nat} {qs : List (Option (Nat × PpH))} {idx : List RefD} {vp vi : Value} (h : TbOwn w B mb qs idx vp vi) {i : Nat} (hi : TbW mb vp vi i) : B ≤ i := by
  rcases hi with rfl | hi | hi
  · exact h.bx
  · exact (h.row.lt i hi).1
  · exact (h.ix.lt i hi).1
end Go.Proofs.Ytbhkmmdcdfjbkaa

namespace Go.Proofs.Ytbhkmmdcdfjbkaa
open Go.RowKit

theorem here_some {hs : List PpH} {gs : List Bool} {idx : List RefD} {id : Int} {p : PageD} (h : getP (trd hs gs idx).here id = some p) : ∃ (k : Nat) (h1 : k < hs.length), id = (k : Int) ∧ hs[k].X = p := by
  obtain ⟨k, rfl, hk⟩ := getP_at h
  obtain ⟨hl, e⟩ := List.getElem?_eq_some_iff.1 hk
  have h1 : k < hs.length := by simp [trd, TreD.here] at hl; omega
  have h2 : k < gs.length := by simp [trd, TreD.here] at hl; omega
  refine ⟨k, h1, rfl, ?_⟩
  have := here_get (idx := idx) h1 h2
  rw [h] at this
  split at this
  · cases this
  · injection this with this; exact this.symm
set_option maxRecDepth 100000 in
set_option maxHeartbeats 4000000 in
theorem l05Place_any (ai : Option Addr) (ni ci : Nat) (idx : List RefD) (key : ByteArray) (w : World) (hR : JRow w ai ni idx) (hr : RiseR idx) (hz : ∃ h : 0 < idx.length, idx[0].low = ⟨#[]⟩ ∧ idx[0].id = 0) (hn : ni ≤ 1000) :
    Calls Try.prog 50 #[.slice ai ni ci, .string key] w fun e w' => e = .returned (.int .i64 ((plR idx key : Nat) : Int)) ∧ w' = w := by
  have R := hide hR
  have L := hR.1
  have RS := hide hr
  have Z := hide hz
  have h00 : 0 < idx.length := hz.1
  have h0 : 0 < ni := by omega
  have S0 := hide (show ltK key (idx[0]'h00).low = false by rw [hz.2.1]; exact ltK_none _)
  clear hR hr hz
  go_enter Try.func50, Try.ntmps50
  go_wp2_with fail
  go_loopw [5] (fun x wr => ∃ (k : Nat) (hk : k < idx.length), x = .int .i64 (k : Int) ∧ Hid (ltK key idx[k].low = false) ∧ Hid (wr = w)) (fun x _ => ni - (intOf x).toNat)
  case atStart => exact ⟨0, by omega, rfl, S0, by first | exact hide rfl | exact hide trivial⟩
  case round =>
    obtain ⟨k, hk, rfl, hl, hww⟩ := hrel
    have hww := unhide hww
    subst wr
    by_cases hlt : k + 1 < ni
    · have hk1 : k + 1 < idx.length := by omega
      obtain ⟨b, off, hai, d0, d1⟩ := (unhide R).2 (k + 1) hk1
      subst hai
      have UP := hide (fun (h : ltK key idx[k + 1].low = true) => (pl_uni (unhide RS) (unhide Z) hk (unhide hl) (fun i hi hgt => by
        by_cases e : i = k + 1
        · subst e; exact h
        · have := Rise.lt (es := idx.map refE) (unhide RS) (i := k + 1) (j := i) (by simpa using hi) (by omega)
          simp only [List.getElem_map, refE] at this
          exact ltK_trans h this)))
      have TU := bl_turn idx[k + 1].low.toList key.toList
      cases hc : ltK key idx[k + 1].low with
      | true =>
        have E := hide (unhide UP hc)
        have hc2 : Op.bytesLess key.toList idx[k + 1].low.toList = true := hc
        rw [hc2] at TU
        have hA : Op.bytesLess idx[k + 1].low.toList key.toList = false := by
          cases h : Op.bytesLess idx[k + 1].low.toList key.toList with
          | false => rfl
          | true => rw [h] at TU; cases TU
        have hB : (idx[k + 1].low.toList == key.toList) = false := by
          cases h : (idx[k + 1].low.toList == key.toList) with
          | false => rfl
          | true => rw [h, hA] at TU; cases TU
        clear UP hl TU hc hc2
        generalize idx[k + 1] = rf at *
        obtain ⟨low, id⟩ := rf
        simp only at d0 d1 hA hB
        go_wp2_with fail
        go_ret
        exact ⟨ret_int (by rw [← unhide E]), rfl⟩
      | false =>
        have HC := hide hc
        have hc2 : Op.bytesLess key.toList idx[k + 1].low.toList = false := hc
        rw [hc2] at TU
        clear UP hl hc hc2
        cases hA : Op.bytesLess idx[k + 1].low.toList key.toList with
        | true =>
          clear TU
          generalize hrf : idx[k + 1] = rf at *
          rw [← hrf] at HC
          clear hrf
          obtain ⟨low, id⟩ := rf
          simp only at d0 d1 hA
          go_wp2_with fail
          go_roundw
          case rel => exact ⟨k + 1, hk1, by go_num, HC, by first | exact hide rfl | exact hide trivial⟩
          case measure => simp [intOf]; omega
        | false =>
          have hB : (idx[k + 1].low.toList == key.toList) = true := by
            cases h : (idx[k + 1].low.toList == key.toList) with
            | true => rfl
            | false => rw [h, hA] at TU; cases TU
          clear TU
          generalize hrf : idx[k + 1] = rf at *
          rw [← hrf] at HC
          clear hrf
          obtain ⟨low, id⟩ := rf
          simp only at d0 d1 hA hB
          go_wp2_with fail
          go_roundw
          case rel => exact ⟨k + 1, hk1, by go_num, HC, by first | exact hide rfl | exact hide trivial⟩
          case measure => simp [intOf]; omega
    · have E := hide (pl_uni (unhide RS) (unhide Z) hk (unhide hl) (fun i hi hgt => by omega))
      go_wp2_with fail
      go_ret
      exact ⟨ret_int (by rw [← unhide E]), rfl⟩
set_option maxRecDepth 100000 in
set_option maxHeartbeats 4000000 in
theorem l05Down_any (ap : Option Addr) (np cp : Nat) (ag : Option Addr) (ng cg : Nat) (ai : Option Addr) (ni ci : Nat) (hs : List PpH) (gs : List Bool) (idx : List RefD) (key : ByteArray) (w : World) (hT : TrIn w ap np cp ag ng cg ai ni hs gs idx) (hG : GoodT (trd hs gs idx).here idx) (hc : ∀ h ∈ hs, h.s1.n ≤ 100000) :
    Calls Try.prog 46 #[.agg #[.slice ap np cp, .slice ag ng cg, .slice ai ni ci], .string key] w fun e w' => e = .returned (.tuple #[.int .i64 (downT (trd hs gs idx).here idx key).1, .int .i64 (((downT (trd hs gs idx).here idx key).2 : Nat) : Int)]) ∧ Below w.heap.size w w' := by
  have b0 : ∀ o, Below w.heap.size w (w.alloc o) := fun o => (Below.refl _ _).alloc (Nat.le_refl _) _
  have lp := hT.plen
  have li := hT.ix.1
  have BW := hide (b0 (.cells #[.slice ap np cp, .slice ag ng cg, .slice ai ni ci] 30))
  have T := hide (hT.below (unhide BW))
  have BT := hide (show ∀ u, Below (w.alloc (.cells #[.slice ap np cp, .slice ag ng cg, .slice ai ni ci] 30)).heap.size (w.alloc (.cells #[.slice ap np cp, .slice ag ng cg, .slice ai ni ci] 30)) u → Below w.heap.size w u from fun u hu => (unhide BW).trans (hu.mono (unhide BW).size))
  have t0 : (w.alloc (.cells #[.slice ap np cp, .slice ag ng cg, .slice ai ni ci] 30)).cell? ⟨w.heap.size, 0, none⟩ = some (.slice ap np cp) := by simp
  have t2 : (w.alloc (.cells #[.slice ap np cp, .slice ag ng cg, .slice ai ni ci] 30)).cell? ⟨w.heap.size, 2, none⟩ = some (.slice ai ni ci) := by simp
  have G := hide hG
  have il : ni ≤ 30 := by have := hG.il; have := hG.len.2; omega
  obtain ⟨hp, _⟩ := pl_facts (k := key) (GoodT.rise hG.ix) hG.zero
  have S0 := hide (DnSt.start (key := key) hG hp)
  have CH := hide hc
  clear hT BW hG hc
  obtain ⟨D, hD⟩ : ∃ D, D = downT (trd hs gs idx).here idx key := ⟨_, rfl⟩
  rw [← hD] at S0 ⊢
  clear hD
  go_enter Try.func46, Try.ntmps46
  go_wp2_with fail
  generalize w.alloc (.cells #[.slice ap np cp, .slice ag ng cg, .slice ai ni ci] 30) = W at *
  have HP := hide (fun n => l05Place_any ai ni ci idx key (W.drewN n) ((unhide T).ix.below (bel_drewN (Below.refl _ _) n)) (GoodT.rise (unhide G).ix) (unhide G).zero (by omega))
  obtain ⟨b, off, hai, d0, d1⟩ := (unhide T).ix.2 (plR idx key) hp
  subst hai
  have hpn : plR idx key < ni := by omega
  generalize hpl : plR idx key = P at *
  clear hpl
  generalize idx[P] = rf at *
  obtain ⟨low0, id0⟩ := rf
  simp only at d0 d1 S0
  go_quiet ((go_at_call 50; exact Calls.quiet_of_same (unhide HP _)))
  have BQ := hide (fun n => bel_drewN (Below.refl W.heap.size W) n)
  clear d0 d1 HP
  go_wp2_with fail
  go_loopw [6, 7] (fun x y wr => ∃ (id : Int) (h : Nat), x = .int .i64 id ∧ y = .int .i64 (h : Int) ∧ Hid (DnSt (trd hs gs idx).here key D id h) ∧ Below W.heap.size W wr) (fun _ y _ => 100 - (intOf y).toNat)
  case atStart => exact ⟨id0, 0, rfl, rfl, S0, unhide BQ _⟩
  case round =>
    obtain ⟨id, h, rfl, rfl, S, hb⟩ := hrel
    have s0 := (hb.cell (p := ⟨w.heap.size, 0, none⟩) (cell_lt t0)).trans t0
    have bR := hide (unhide BT _ hb)
    obtain ⟨p, hg, _, _⟩ := (unhide S).here
    obtain ⟨q, hq1, rfl, hX⟩ := here_some hg
    have hfew := (unhide S).few (unhide G).len.2
    rw [← hX] at hg
    have STOP := hide (fun hu => (unhide S).stop (unhide G).len.2 hg hu)
    have NEXT := hide (fun hu => (unhide S).next (unhide G) hg hu)
    obtain ⟨b, off, hap, hbl, d0, d1, d2, d3, d4⟩ := PpIn.cells ((unhide T).below hb).pgs hq1
    subst hap
    have hqn : q < np := by omega
    have HB := hide (l04Bounds_any hs[q].X.lo hs[q].X.hi hs[q].X.r (.slice hs[q].s0.a hs[q].s0.n hs[q].s0.c) hs[q].s1.a hs[q].s1.n hs[q].s1.c hs[q].X.ds wr (drow_C (PpIn.sub ((unhide T).below hb).pgs hq1).2) (unhide CH _ (List.getElem_mem hq1)))
    clear S hg hX
    generalize hs[q] = pd at *
    obtain ⟨X, ⟨a0, n0, c0⟩, ⟨a1, n1, c1⟩⟩ := pd
    simp only at d0 d1 d2 d3 d4 HB STOP NEXT
    change Hid (underK key (highE X.hi X.ds) = true → _) at STOP
    change Hid (underK key (highE X.hi X.ds) = false → DnSt _ _ _ (rightE X.r X.ds) _) at NEXT
    generalize highE X.hi X.ds = H at *
    generalize rightE X.r X.ds = R at *
    go_wp2_with fail
    refine (unhide HB).mono ?_
    rintro e w2 ⟨rfl, hb2⟩
    have bA := hb.trans (hb2.mono hb.size)
    clear HB d0 d1 d2 d3 d4 s0 hb hb2
    have HU := hide (l04Under_any key H w2)
    cases hu : underK key H with
    | true =>
      have E := hide (unhide STOP hu)
      rw [hu] at HU
      go_wp2_with fail
      refine (unhide HU).mono ?_
      rintro e w3 ⟨rfl, hw3⟩
      subst w3
      go_wp2_with fail
      go_ret2
      exact ⟨by rw [unhide E]; rfl, unhide BT _ bA⟩
    | false =>
      have NX := hide (unhide NEXT hu)
      rw [hu] at HU
      go_wp2_with fail
      refine (unhide HU).mono ?_
      rintro e w3 ⟨rfl, hw3⟩
      subst w3
      go_wp2_with fail
      go_roundw
      case rel => exact ⟨_, h + 1, rfl, by go_num, NX, bA⟩
      case measure => simp [intOf]; omega
end Go.Proofs.Ytbhkmmdcdfjbkaa
