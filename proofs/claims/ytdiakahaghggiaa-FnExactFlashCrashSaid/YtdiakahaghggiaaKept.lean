/-
  The walk of a device's method kept.
-/
import Derived.Test.YtdiakahaghggiaaCrashL
import Derived.Test.YtdiakahaghggiaaDevP
import Derived.Test.YtdiakahaghggiaaBRow
namespace Go.Proofs.Ytdiakahaghggiaa
open Go.RowKit Go.Maps

/-- The row of those that wait, with its address where there is one. -/
theorem wait_form {w : World} {base n : Nat} {v : Value} {xs : List Value} (h : w.ownsRow base 96 17 v n xs) : (v = .slice none 0 0 ∧ n = 0) ∨ ∃ g cap, v = .slice (some ⟨g, 0, none⟩) n cap ∧ n ≤ cap ∧ cap ≤ maxLen ∧ g < w.heap.size ∧ ∀ j, j < n * 17 → w.cell? ⟨g, j, none⟩ = xs[j]? := by
  rcases h.2 with ⟨e, hn⟩ | ⟨g, cap, cur, e, hb, hh, hc, hm, r⟩
  · exact .inl ⟨e, hn⟩
  · subst e
    exact .inr ⟨g, cap, rfl, hc, hm, (Array.getElem?_eq_some_iff.1 hh).1, fun j hj => h.cellAt j hj⟩
theorem ws_info : (Try.prog.info? 96).map (·.size) = some 17 := by kernel_rfl
theorem wcells_len {d : WD} (h : d.xs.length = 16) : (wcells d).length = 17 := by simp [wcells, h]
theorem allCells_at : ∀ (l : List WD) (k : Nat) (hk : k < l.length), (∀ d ∈ l, d.xs.length = 16) → ∀ j, j < 17 → (allCells l)[k * 17 + j]? = (wcells l[k])[j]? := by
  intro l
  induction l with
  | nil => intro k hk; simp at hk
  | cons d r ih =>
    intro k hk h j hj
    have hd := wcells_len (h d List.mem_cons_self)
    have e : allCells (d :: r) = wcells d ++ allCells r := by simp [allCells]
    rw [e]
    cases k with
    | zero => rw [List.getElem?_append_left (by omega)]; simp
    | succ k =>
      rw [List.getElem?_append_right (by omega), hd, show (k + 1) * 17 + j - 17 = k * 17 + j by omega]
      exact ih k (by simpa using hk) (fun d hd => h d (List.mem_cons_of_mem _ hd)) j hj
/-- The cells of a sector that waits. -/
theorem ws_range {w : World} {g k : Nat} {l : List WD} (hc : ∀ j, j < l.length * 17 → w.cell? ⟨g, j, none⟩ = (allCells l)[j]?) (hk : k < l.length) (h16 : ∀ d ∈ l, d.xs.length = 16) : w.rangeAt g (k * 17) (wcells l[k]) := by
  have hl := wcells_len (h16 l[k] (List.getElem_mem hk))
  intro j v hv
  have hj : j < 17 := by have := (List.getElem?_eq_some_iff.1 hv).1; omega
  rw [hc _ (by omega), allCells_at l k hk h16 j hj]
  exact hv
theorem fold_set : ∀ (cs : List Value) (k : Nat) (z : Array Value), (List.foldl (fun a x => a.setIfInBounds x.snd x.fst) z (cs.zipIdx k)).size = z.size ∧ ∀ i, (List.foldl (fun a x => a.setIfInBounds x.snd x.fst) z (cs.zipIdx k))[i]? = if k ≤ i ∧ i < k + cs.length ∧ i < z.size then cs[i - k]? else z[i]? := by
  intro cs
  induction cs with
  | nil => intro k z; exact ⟨rfl, fun i => by rw [if_neg (by simp; omega)]; rfl⟩
  | cons c r ih =>
    intro k z
    obtain ⟨h1, h2⟩ := ih (k + 1) (z.setIfInBounds k c)
    simp only [List.zipIdx_cons, List.foldl_cons]
    refine ⟨by rw [h1]; simp, fun i => ?_⟩
    rw [h2 i]
    simp only [Array.size_setIfInBounds, List.length_cons]
    by_cases hi : k + 1 ≤ i ∧ i < k + 1 + r.length ∧ i < z.size
    · rw [if_pos hi, if_pos (by omega), show i - k = i - (k + 1) + 1 by omega, List.getElem?_cons_succ]
    · rw [if_neg hi, Array.getElem?_setIfInBounds]
      by_cases e : k = i
      · subst e
        by_cases hz : k < z.size
        · rw [if_pos rfl, if_pos hz, if_pos (by omega)]; simp
        · rw [if_pos rfl, if_neg hz, if_neg (by omega), Array.getElem?_eq_none (by omega)]
      · rw [if_neg e, if_neg (by omega)]
/-- A literal of one sector that waits, as it is laid. -/
theorem fold17 (cs : List Value) (h : cs.length = 17) : List.foldl (fun cs x => cs.setIfInBounds x.snd x.fst) #[Value.int .i64 0, Value.int .u8 0, Value.int .u8 0, Value.int .u8 0, Value.int .u8 0, Value.int .u8 0, Value.int .u8 0, Value.int .u8 0, Value.int .u8 0, Value.int .u8 0, Value.int .u8 0, Value.int .u8 0, Value.int .u8 0, Value.int .u8 0, Value.int .u8 0, Value.int .u8 0, Value.int .u8 0] cs.zipIdx = cs.toArray := by
  obtain ⟨h1, h2⟩ := fold_set cs 0 #[Value.int .i64 0, Value.int .u8 0, Value.int .u8 0, Value.int .u8 0, Value.int .u8 0, Value.int .u8 0, Value.int .u8 0, Value.int .u8 0, Value.int .u8 0, Value.int .u8 0, Value.int .u8 0, Value.int .u8 0, Value.int .u8 0, Value.int .u8 0, Value.int .u8 0, Value.int .u8 0, Value.int .u8 0]
  apply Array.ext_getElem?
  intro i
  rw [h2 i]
  by_cases hi : i < 17
  · rw [if_pos (by simp; omega)]; simp
  · rw [if_neg (by simp; omega), Array.getElem?_eq_none (by simp; omega), List.getElem?_toArray, List.getElem?_eq_none (by omega)]
set_option maxRecDepth 100000 in
set_option maxHeartbeats 2000000 in
theorem kept_any (base p N : Nat) (S : DS) (ak : Option Addr) (nk ck : Nat) (ks : List Bool) (w : World) (hD : Dev w base p N S) (hw : S.ws.length ≤ 4096) (hB : BRow w ak nk ks) (hk : nk ≤ 1048576) :
    Calls Try.prog 63 #[.pointer (some ⟨p, 0, none⟩), .slice ak nk ck] w fun e w' => ∃ v, e = .returned v ∧ w'.ownsRow w.heap.size 96 17 v (keptD S.ws ks).length (allCells (keptD S.ws ks)) ∧ Below w.heap.size w w' := by
  obtain ⟨mh, mr, v, hd⟩ := hD
  obtain ⟨i0, hi, hz0, hz1, hz2⟩ := info_parts Try.infoWS
  have c4 := hd.c4
  have hpl : p < w.heap.size := cell_lt hd.c0
  rcases wait_form hd.wait with ⟨rfl, hn0⟩ | ⟨g, cap, rfl, hc1, hc2, hgl, hcells⟩
  · have HK := hide (show keptD S.ws ks = [] by
      have h0 : S.ws = [] := List.eq_nil_of_length_eq_zero hn0
      rw [h0]; cases ks <;> rfl)
    clear hd hB
    go_enter Try.func63, Try.ntmps63
    go_wp2_with fail
    all_goals
      refine wp_loop_rounds 1 ?_
      rw [rounds_succ]
      go_wp2_with fail
      go_ret
      exact ⟨_, rfl, by rw [unhide HK]; exact ⟨rfl, .inl ⟨rfl, rfl⟩⟩, Below.refl _ _⟩
  · have HD := hide hd
    have HB := hide hB
    have HCE := hide hcells
    unfold maxLen at hc2
    clear hd hB hcells
    go_enter Try.func63, Try.ntmps63
    go_wp2_with fail
    all_goals
      go_loopw [5, 15] (fun v i wr => ∃ k : Nat, k ≤ S.ws.length ∧ k ≤ nk ∧ i = .int .i64 k ∧ Hid (wr.ownsRow w.heap.size 96 17 v (keptD (S.ws.take k) (ks.take k)).length (allCells (keptD (S.ws.take k) (ks.take k)))) ∧ Below w.heap.size w wr) (fun _ i _ => nk - (intOf i).toNat)
      case atStart => exact ⟨0, Nat.zero_le _, Nat.zero_le _, rfl, ⟨by simp [keptD, allCells], .inl ⟨rfl, by simp [keptD]⟩⟩, Below.refl _ _⟩
      case round =>
        obtain ⟨k, hk1, hk2, rfl, hO, hb⟩ := hrel
        have hkl := hide (unhide HB).1
        by_cases hlt : k < S.ws.length ∧ k < nk
        · obtain ⟨hlt1, hlt2⟩ := hlt
          obtain ⟨bk, ok, rfl, ek⟩ := ((unhide HB).grow hb).2 k hlt2
          have SN := hide (keptD_snoc S.ws ks k hlt1 (by rw [unhide hkl]; exact hlt2))
          have eg : ks[k]'(by rw [unhide hkl]; exact hlt2) = ks.getD k false := by simp [List.getD, show k < ks.length by rw [unhide hkl]; exact hlt2]
          rw [eg] at SN
          have d4 := (hb.cell (p := ⟨p, 4, none⟩) hpl).trans c4
          by_cases hf : ks.getD k false = true
          · rw [hf] at ek SN
            have hrg := ws_range (w := wr) (l := S.ws) (fun j hj => (hb.cell (p := ⟨g, j, none⟩) hgl).trans (unhide HCE j hj)) hlt1 (fun d hd => ((unhide HD).wok d hd).2.2)
            have hl17 := wcells_len ((unhide HD).wok _ (List.getElem_mem hlt1)).2.2
            have h1c := wcells_one S.ws[k]
            have AS := hide (allCells_snoc (keptD (S.ws.take k) (ks.take k)) S.ws[k])
            have HRG := hide hrg
            have HI := hide (show (Try.prog.info? 96).map (·.size) = some (wcells S.ws[k]).length by rw [ws_info, hl17])
            clear hf eg hrg
            generalize wcells S.ws[k] = cs at *
            have hfo := fold17 cs hl17
            have HL := hide hl17
            have H1 := hide h1c
            clear h1c
            have hsz := hb.size
            have hlk : (keptD (S.ws.take k) (ks.take k)).length ≤ 4096 := by have := keptD_len (S.ws.take k) (ks.take k); have h2 : (S.ws.take k).length ≤ k := List.length_take_le _ _; omega
            generalize keptD (S.ws.take k) (ks.take k) = ds at *
            go_wp2_with (first | (at_builtin; refine wpList_append_own _ rfl _ _ 70 rfl w.heap.size 96 i0 _ 17 24 Try.underlying70 hi hz0 hz1 hz2 rfl (by decide) _ ds.length (allCells ds) rfl (World.ownsRow.alloc (unhide hO) _) ⟨wr.heap.size, 0, none⟩ 1 1 cs rfl (unhide HL) cells_new (unhide H1) (by unfold maxLen; omega) (by omega) (by simp; omega) ?_) | (refine wpList_load_mid rfl 96 _ rfl g (k * 17) rfl cs _ (unhide HRG) Try.underlying96 rfl (unhide HI) ?_))
            intro v2 w2 hown2 hgrow2 _
            have O2 := hide (show w2.ownsRow w.heap.size 96 17 v2 (keptD (S.ws.take (k + 1)) (ks.take (k + 1))).length (allCells (keptD (S.ws.take (k + 1)) (ks.take (k + 1)))) by
              have e := unhide SN
              simp only [if_true] at e
              rw [e, unhide AS, List.length_append]
              exact hown2)
            have B2 := hide ((hb.alloc hsz _).grown hgrow2 (by simp; omega) (fun k hk => ((unhide hO).lt k hk).1))
            clear hown2 hgrow2 hO hfo
            go_wp2_with fail
            go_roundw
            case rel => exact ⟨k + 1, by omega, by omega, by go_num, unhide O2, unhide B2⟩
            case measure => simp [intOf]; omega
          · have hf : ks.getD k false = false := by simpa using hf
            rw [hf] at ek SN
            have O2 := hide (show wr.ownsRow w.heap.size 96 17 u5 (keptD (S.ws.take (k + 1)) (ks.take (k + 1))).length (allCells (keptD (S.ws.take (k + 1)) (ks.take (k + 1)))) by
              have e := unhide SN
              simp only [Bool.false_eq_true, if_false, List.append_nil] at e
              rw [e]
              exact unhide hO)
            clear hf eg SN hO
            go_wp2_with fail
            go_roundw
            case rel => exact ⟨k + 1, by omega, by omega, by go_num, unhide O2, hb⟩
            case measure => simp [intOf]; omega
        · have hmin : k = min S.ws.length ks.length := by rw [unhide hkl]; omega
          have O2 := hide (show wr.ownsRow w.heap.size 96 17 u5 (keptD S.ws ks).length (allCells (keptD S.ws ks)) by
            have := unhide hO
            rw [hmin, keptD_min] at this
            exact this)
          have hlt3 : nk ≤ k ∨ S.ws.length ≤ k := by omega
          clear hO hmin hlt
          go_wp2_with fail
          go_ret
          exact ⟨_, rfl, unhide O2, hb⟩
end Go.Proofs.Ytdiakahaghggiaa
