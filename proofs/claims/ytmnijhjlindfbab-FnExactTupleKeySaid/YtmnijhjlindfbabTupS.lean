/-
  The walks of l01Tuple and TupleKey, the specification's.
-/
import Derived.Test.YtmnijhjlindfbabTupI
import Derived.Test.YtmnijhjlindfbabTextS
import Derived.Test.YtmnijhjlindfbabIntKeyS
import Derived.Test.YtmnijhjlindfbabFloatKeyS
namespace Go.Proofs.Ytmnijhjlindfbab
open Go.RowKit
attribute [local go_sem] run_store_float

theorem mine_src {w : World} {B : Nat} {v : Value} {xs : List Int} (h : Mine w B v xs) (h0 : 0 < xs.length) :
    ∃ b off c, v = .slice (some ⟨b, off, none⟩) xs.length c ∧ ∀ j u, (xs.map (Value.int .u8))[j]? = some u → w.cell? ((⟨b, off, none⟩ : Addr).add j) = some u := by
  obtain ⟨a, c, rfl, _, _, hr, _⟩ := h
  obtain ⟨b, off, rfl, _⟩ := hr.2 0 h0
  refine ⟨b, off, c, rfl, fun j u hj => ?_⟩
  have hl : j < xs.length := by
    have := (List.getElem?_eq_some_iff.1 hj).1
    simpa using this
  obtain ⟨b', off', e, hc⟩ := hr.2 j hl
  cases e
  have e : (⟨b, off, none⟩ : Addr).add j = ⟨b, off + j, none⟩ := by unfold Addr.add; split <;> simp_all
  rw [e, hc]
  simp [List.getD, hl] at hj ⊢
  exact hj
theorem eights_src {w : World} {B : Nat} {v : Value} {x : Int} (h : Mine w B v (eights x 8)) :
    ∃ b off c, v = .slice (some ⟨b, off, none⟩) 8 c ∧ ∀ j u, ((eights x 8).map (Value.int .u8))[j]? = some u → w.cell? ((⟨b, off, none⟩ : Addr).add j) = some u := by
  have := mine_src h (by rw [eights_length]; omega)
  rw [eights_length] at this
  exact this

set_option maxHeartbeats 2000000 in
theorem l01Tuple_any (a : Option Addr) (n c : Nat) (ps : List PartD) (w : World) (hn : n ≤ 6) (hr : PRow w a n ps) (ht : ∀ i (hi : i < ps.length), ps[i].f < 18446744073709551616) (hall : ps.all okD = true) :
    Calls Try.prog 23 #[.slice a n c] w fun e w' => ∃ v, e = .returned v ∧ Owns w' w.heap.size v (tkey ps) ∧ Below w.heap.size w w' := by
  obtain ⟨i0, hi, hz0, hz1, hz2⟩ := info_parts Try.infoU8
  have L := hide hr.1
  have H := hide hr
  have T := hide ht
  have AL := hide hall
  clear hr ht hall
  go_enter Try.func23, Try.ntmps23
  go_wp2_with fail
  go_loopw [3, 4] (fun v i wr => ∃ k : Nat, k ≤ n ∧ i = .int .i64 k ∧ Owns wr w.heap.size v (tkey (ps.take k)) ∧ Below w.heap.size w wr) (fun _ i _ => n - (intOf i).toNat)
  case atStart => exact ⟨0, by omega, rfl, World.ownsRow_lit _ _ _ (Nat.le_refl _) (by unfold maxLen; simp) rfl, (Below.refl _ _).alloc (Nat.le_refl _) _⟩
  case round =>
    obtain ⟨k, hk, rfl, ho, hb⟩ := hrel
    by_cases hlt : k < n
    · have hk2 : k < ps.length := by rw [unhide L]; exact hlt
      obtain ⟨b, off, rfl, c0, c1, c2, c3⟩ := (unhide H).2 k hk2
      have hbl : b < w.heap.size := cell_lt c0
      have d0 := (hb.cell (p := ⟨b, off + k * 4, none⟩) hbl).trans c0
      have d1 := (hb.cell (p := ⟨b, off + k * 4 + 1, none⟩) hbl).trans c1
      have d2 := (hb.cell (p := ⟨b, off + k * 4 + 2, none⟩) hbl).trans c2
      have d3 := (hb.cell (p := ⟨b, off + k * 4 + 3, none⟩) hbl).trans c3
      have hf := unhide T k hk2
      have ST := hide (tkey_step hk2)
      have hok : okD ps[k] = true := by
        have := unhide AL
        rw [List.all_eq_true] at this
        exact this _ (List.getElem_mem hk2)
      have hz : (tkey (ps.take k)).length ≤ 1000000 := by
        have h1 := tkey_length (all_take (unhide AL) k)
        have h2 : (ps.take k).length ≤ k := by rw [List.length_take]; exact Nat.min_le_left _ _
        omega
      clear c0 c1 c2 c3
      generalize ps[k] = pd at *
      generalize tkey (ps.take k) = zs at *
      have hsz := hb.size
      have ht := okD_text hok
      have hkd := okD_kind hok
      obtain ⟨kk, n', f, t⟩ := pd
      simp only at ht hkd hf d0 d1 d2 d3
      clear hok
      have far := hide (own_far ho)
      rcases hkd with rfl | rfl | rfl
      · have E := hide (show zs ++ [1] ++ eights (rank n') 8 = zs ++ pkey ⟨1, n', f, t⟩ by simp [pkey])
        go_wp2_with (at_builtin; refine wpList_append_own _ rfl _ _ 24 rfl w.heap.size 5 i0 (.int .u8 0) 1 1 Try.underlying24 hi hz0 hz1 hz2 rfl (by decide) _ _ _ rfl ((ho.alloc _).alloc _) ⟨wr.heap.size + 1, 0, none⟩ 1 1 [.int .u8 1] rfl rfl cells_new1 (one_u8 _) (by unfold maxLen; omega) (by omega) (by simp; omega) ?_)
        intro v1 w1 hown1 hgrow1 _
        have O1 := owns_app hown1
        have B1 := below_app (hb.alloc hsz _) (by simp; omega) (ho.alloc _) hgrow1
        have e0 : w1.cell? ⟨wr.heap.size, 0, none⟩ = some (.int .i64 1) := hgrow1.cell (by simp) (unhide far)
        have e1 : w1.cell? ⟨wr.heap.size, 1, none⟩ = some (.int .i64 n') := hgrow1.cell (by simp) (unhide far)
        have S1 : w.heap.size ≤ w1.heap.size := B1.size
        have LY : (zs ++ [(1 : Int)]).length ≤ 1000001 := by simp; omega
        clear ho hown1 hgrow1 hz hb d0 d1 d2 d3
        generalize hys : zs ++ [(1 : Int)] = ys at *
        clear hys
        have O1H := hide O1
        clear O1
        go_wp2_with fail
        refine (specIntKey_any _ _).mono ?_
        rintro e w2 ⟨v2, rfl, hm2, hb2⟩
        obtain ⟨b2, off2, cc2, rfl, hsrc⟩ := eights_src hm2
        have O2 := owns_below (unhide O1H) hb2
        have B2 : Below w.heap.size w w2 := B1.trans (hb2.mono S1)
        have S2 : w.heap.size ≤ w2.heap.size := Nat.le_trans S1 hb2.size
        clear hm2 e0 e1 hb2 B1 S1 O1H
        go_wp2_with (at_builtin; refine wpList_append_own _ rfl _ _ 24 rfl w.heap.size 5 i0 (.int .u8 0) 1 1 Try.underlying24 hi hz0 hz1 hz2 rfl (by decide) _ _ _ rfl O2 ⟨b2, off2, none⟩ 8 cc2 ((eights (rank n') 8).map (Value.int .u8)) rfl rfl hsrc (all_u8 _) (by unfold maxLen; omega) (by omega) S2 ?_)
        intro v3 w3 hown3 hgrow3 _
        have O3 := hide (owns_apps (xs := ys) (ys := eights (rank n') 8) rfl hown3)
        have B3 := hide (B2.grown hgrow3 S2 (fun k hk => (O2.lt k hk).1))
        clear O2 hown3 hgrow3 B2 S2 hsrc
        go_wp2_with fail
        go_roundw
        case rel => exact ⟨k + 1, by omega, by go_num, by rw [unhide ST, ← unhide E]; exact unhide O3, unhide B3⟩
        case measure => simp [intOf]; omega
      · have E := hide (show zs ++ [2] ++ eights (frank f) 8 = zs ++ pkey ⟨2, n', f, t⟩ by simp [pkey])
        go_wp2_with (at_builtin; refine wpList_append_own _ rfl _ _ 24 rfl w.heap.size 5 i0 (.int .u8 0) 1 1 Try.underlying24 hi hz0 hz1 hz2 rfl (by decide) _ _ _ rfl ((ho.alloc _).alloc _) ⟨wr.heap.size + 1, 0, none⟩ 1 1 [.int .u8 2] rfl rfl cells_new1 (one_u8 _) (by unfold maxLen; omega) (by omega) (by simp; omega) ?_)
        intro v1 w1 hown1 hgrow1 _
        have O1 := owns_app hown1
        have B1 := below_app (hb.alloc hsz _) (by simp; omega) (ho.alloc _) hgrow1
        have e0 : w1.cell? ⟨wr.heap.size, 0, none⟩ = some (.int .i64 2) := hgrow1.cell (by simp) (unhide far)
        have e1 : w1.cell? ⟨wr.heap.size, 2, none⟩ = some (.float .f64 f) := hgrow1.cell (by simp) (unhide far)
        have S1 : w.heap.size ≤ w1.heap.size := B1.size
        have LY : (zs ++ [(2 : Int)]).length ≤ 1000001 := by simp; omega
        clear ho hown1 hgrow1 hz hb d0 d1 d2 d3
        generalize hys : zs ++ [(2 : Int)] = ys at *
        clear hys
        have O1H := hide O1
        clear O1
        go_wp2_with fail
        refine (specFloatKey_any f _ hf).mono ?_
        rintro e w2 ⟨v2, rfl, hm2, hb2⟩
        obtain ⟨b2, off2, cc2, rfl, hsrc⟩ := eights_src hm2
        have O2 := owns_below (unhide O1H) hb2
        have B2 : Below w.heap.size w w2 := B1.trans (hb2.mono S1)
        have S2 : w.heap.size ≤ w2.heap.size := Nat.le_trans S1 hb2.size
        clear hm2 e0 e1 hb2 B1 S1 O1H
        go_wp2_with (at_builtin; refine wpList_append_own _ rfl _ _ 24 rfl w.heap.size 5 i0 (.int .u8 0) 1 1 Try.underlying24 hi hz0 hz1 hz2 rfl (by decide) _ _ _ rfl O2 ⟨b2, off2, none⟩ 8 cc2 ((eights (frank f) 8).map (Value.int .u8)) rfl rfl hsrc (all_u8 _) (by unfold maxLen; omega) (by omega) S2 ?_)
        intro v3 w3 hown3 hgrow3 _
        have O3 := hide (owns_apps (xs := ys) (ys := eights (frank f) 8) rfl hown3)
        have B3 := hide (B2.grown hgrow3 S2 (fun k hk => (O2.lt k hk).1))
        clear O2 hown3 hgrow3 B2 S2 hsrc
        go_wp2_with fail
        go_roundw
        case rel => exact ⟨k + 1, by omega, by go_num, by rw [unhide ST, ← unhide E]; exact unhide O3, unhide B3⟩
        case measure => simp [intOf]; omega
      · have E := hide (show zs ++ [3] ++ (esc t.data.toList ++ [0, 1]) = zs ++ pkey ⟨3, n', f, t⟩ by simp [pkey])
        go_wp2_with (at_builtin; refine wpList_append_own _ rfl _ _ 24 rfl w.heap.size 5 i0 (.int .u8 0) 1 1 Try.underlying24 hi hz0 hz1 hz2 rfl (by decide) _ _ _ rfl ((ho.alloc _).alloc _) ⟨wr.heap.size + 1, 0, none⟩ 1 1 [.int .u8 3] rfl rfl cells_new1 (one_u8 _) (by unfold maxLen; omega) (by omega) (by simp; omega) ?_)
        intro v1 w1 hown1 hgrow1 _
        have O1 := owns_app hown1
        have B1 := below_app (hb.alloc hsz _) (by simp; omega) (ho.alloc _) hgrow1
        have e0 : w1.cell? ⟨wr.heap.size, 0, none⟩ = some (.int .i64 3) := hgrow1.cell (by simp) (unhide far)
        have e1 : w1.cell? ⟨wr.heap.size, 3, none⟩ = some (.string t) := hgrow1.cell (by simp) (unhide far)
        have S1 : w.heap.size ≤ w1.heap.size := B1.size
        have LY : (zs ++ [(3 : Int)]).length ≤ 1000001 := by simp; omega
        clear ho hown1 hgrow1 hz hb d0 d1 d2 d3
        generalize hys : zs ++ [(3 : Int)] = ys at *
        clear hys
        have O1H := hide O1
        clear O1
        have hts : t.size ≤ 1000000 := by omega
        have hel : (esc t.data.toList ++ [0, 1]).length ≤ 202 := by
          have h := esc_length t.data.toList
          have h2 : t.data.toList.length = t.size := by simp
          simp only [List.length_append, List.length_cons, List.length_nil]
          omega
        have hep : 0 < (esc t.data.toList ++ [0, 1]).length := by simp
        go_wp2_with fail
        refine (l01Text_any t _ hts).mono ?_
        rintro e w2 ⟨v2, rfl, hm2, hb2⟩
        obtain ⟨b2, off2, cc2, rfl, hsrc⟩ := mine_src (mine_of_owns hm2) hep
        generalize esc t.data.toList ++ [0, 1] = es at *
        have O2 := owns_below (unhide O1H) hb2
        have B2 : Below w.heap.size w w2 := B1.trans (hb2.mono S1)
        have S2 : w.heap.size ≤ w2.heap.size := Nat.le_trans S1 hb2.size
        clear hm2 e0 e1 hb2 B1 S1 O1H hep
        go_wp2_with (at_builtin; refine wpList_append_own _ rfl _ _ 24 rfl w.heap.size 5 i0 (.int .u8 0) 1 1 Try.underlying24 hi hz0 hz1 hz2 rfl (by decide) _ _ _ rfl O2 ⟨b2, off2, none⟩ es.length cc2 (es.map (Value.int .u8)) rfl (by simp) hsrc (all_u8 _) (by unfold maxLen; omega) (by omega) S2 ?_)
        intro v3 w3 hown3 hgrow3 _
        have O3 := hide (owns_apps (xs := ys) (ys := es) rfl hown3)
        have B3 := hide (B2.grown hgrow3 S2 (fun k hk => (O2.lt k hk).1))
        clear O2 hown3 hgrow3 B2 S2 hsrc
        go_wp2_with fail
        go_roundw
        case rel => exact ⟨k + 1, by omega, by go_num, by rw [unhide ST, ← unhide E]; exact unhide O3, unhide B3⟩
        case measure => simp [intOf]; omega
    · obtain rfl : k = n := by omega
      rw [List.take_of_length_le (by rw [unhide L]; exact Nat.le_refl _)] at ho
      have M := hide ho
      clear ho
      go_wp2_with fail
      go_ret
      exact ⟨_, rfl, unhide M, hb⟩

set_option maxHeartbeats 1000000 in
theorem specTupleKey_any (a : Option Addr) (n c : Nat) (ps : List PartD) (w : World) (hn : n ≤ 1048576) (hr : PRow w a n ps) (ht : ∀ i (hi : i < ps.length), ps[i].t.size ≤ maxLen ∧ ps[i].f < 18446744073709551616) :
    Calls Try.prog 7 #[.slice a n c] w fun e w' => ∃ v, e = .returned (.tuple #[v, .int .i64 (tupC ps)]) ∧ Mine w' w.heap.size v (tupL ps) ∧ Below w.heap.size w w' := by
  have l1 := hr.1
  have L := hide hr.1
  have H := hide hr
  have T := hide ht
  clear hr ht
  by_cases hl : 4096 < n
  · have E := hide (tup_long (ps := ps) (by rw [l1]; exact hl))
    clear l1
    go_enter Try.func7, Try.ntmps7
    go_wp2_with fail
    go_ret2
    exact ⟨_, by rw [(unhide E).2]; rfl, by rw [(unhide E).1]; exact mine_empty _ (Nat.le_refl _), (Below.refl _ _).alloc (Nat.le_refl _) _⟩
  have EB := hide (tup_bad (ps := ps) (by rw [l1]; exact hl))
  have EO := hide (tup_ok (ps := ps) (by rw [l1]; exact hl))
  clear l1
  go_enter Try.func7, Try.ntmps7
  go_wp2_with fail
  refine (l01Parts_any a n c ps _ hn (unhide H) (fun i hi => (unhide T i hi).1)).mono ?_
  rintro e w1 ⟨rfl, hb1⟩
  cases ho1 : oksD ps
  · have E := hide (unhide EB ho1)
    clear ho1
    go_wp2_with fail
    go_ret2
    exact ⟨_, by rw [(unhide E).2]; rfl, by rw [(unhide E).1]; exact mine_empty _ hb1.size, hb1.alloc hb1.size _⟩
  have E := hide (unhide EO ho1)
  have AL := hide (oks_all ho1)
  have h6 : n ≤ 6 := by have := (unhide AL).1; rw [unhide L] at this; exact this
  have H1 := hide ((unhide H).1)
  have HR : Hid (PRow w1 a n ps) := (unhide H).below hb1
  clear ho1 EB EO
  go_wp2_with fail
  refine (l01Tuple_any a n c ps w1 h6 (unhide HR) (fun i hi => (unhide T i hi).2) (unhide AL).2).mono ?_
  rintro e w2 ⟨v, rfl, ho2, hb2⟩
  have hs := hb1.size
  have M := hide (show Mine w2 w.heap.size v (tkey ps) from mine_mono (mine_of_owns ho2) hs)
  have bA := hide (hb1.trans (hb2.mono hs))
  clear ho2 hb1 hb2
  go_wp2_with fail
  go_ret2
  exact ⟨_, by rw [(unhide E).2]; rfl, by rw [(unhide E).1]; exact unhide M, unhide bA⟩
end Go.Proofs.Ytmnijhjlindfbab
