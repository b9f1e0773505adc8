/-
  The walks of appendPart and TupleKey, the program's.
-/
import Derived.Test.YtgifcaeemfaihaaTupL
import Derived.Test.YtgifcaeemfaihaaTextI
import Derived.Test.YtgifcaeemfaihaaRankI
import Derived.Test.YtgifcaeemfaihaaEightI
import Derived.Test.YtgifcaeemfaihaaFloatRankI
set_option maxRecDepth 100000
namespace Go.Proofs.Ytgifcaeemfaihaa
open Go.RowKit
attribute [local go_sem] run_store_float

set_option maxHeartbeats 1000000 in
theorem appendPart_any (B : Nat) (v0 : Value) (zs : List Int) (d : PartD) (w : World) (hd : okD d = true) (hf : d.f < 18446744073709551616) (hB : B ≤ w.heap.size) (hz : zs.length ≤ 1000000) (ho : Owns w B v0 zs) :
    Calls Try.prog 49 #[v0, pv d] w fun e w' => ∃ v, e = .returned v ∧ Owns w' B v (zs ++ pkey d) ∧ Below B w w' := by
  obtain ⟨i0, hi, hz0, hz1, hz2⟩ := info_parts Try.infoU8
  have ht := okD_text hd
  have hk := okD_kind hd
  obtain ⟨k, n, f, t⟩ := d
  simp only at ht hk hf
  clear hd
  have far := hide (own_far ho)
  have L1 := hide (show ∀ x : Int, (zs ++ [x]).length ≤ 1000001 from fun x => by simp; omega)
  rcases hk with rfl | rfl | rfl
  · have E := hide (show ∀ b0 b1 b2 b3 b4 b5 b6 b7, eights (rank n) 8 = [b0, b1, b2, b3, b4, b5, b6, b7] → zs ++ [1] ++ [b0, b1, b2, b3, b4, b5, b6, b7] = zs ++ pkey ⟨1, n, f, t⟩ from fun _ _ _ _ _ _ _ _ h => by simp [pkey, h])
    go_enter Try.func49, Try.ntmps49
    go_wp2_with (at_builtin; refine wpList_append_own _ rfl _ _ 22 rfl B 5 i0 (.int .u8 0) 1 1 Try.underlying22 hi hz0 hz1 hz2 rfl (by decide) _ _ _ rfl ((ho.alloc _).alloc _) ⟨w.heap.size + 1, 0, none⟩ 1 1 [.int .u8 1] rfl rfl cells_new1 (one_u8 _) (by unfold maxLen; omega) (by omega) (by simp; omega) ?_)
    intro v1 w1 hown1 hgrow1 _
    have O1 := owns_app hown1
    have B1 := below_app ((Below.refl B w).alloc hB _) (by simp; omega) (ho.alloc _) hgrow1
    have c0 : w1.cell? ⟨w.heap.size, 0, none⟩ = some (.int .i64 1) := hgrow1.cell (by simp) (unhide far)
    have c1 : w1.cell? ⟨w.heap.size, 1, none⟩ = some (.int .i64 n) := hgrow1.cell (by simp) (unhide far)
    have S1 : B ≤ w1.heap.size := Nat.le_trans hB B1.size
    have L := unhide L1 1
    clear ho hown1 hgrow1 hz
    generalize hys : zs ++ [(1 : Int)] = ys at *
    have Y := hide hys
    clear hys
    go_wp2_with fail
    refine (intRank_any _ _).mono ?_
    rintro e w2 ⟨rfl, rfl⟩
    go_wp2_with fail
    refine (eightOf_lit _ _).mono ?_
    rintro e w2 ⟨b0, b1, b2, b3, b4, b5, b6, b7, rfl, he, hb2⟩
    have O2 := owns_below O1 hb2
    have B2 : Below B w w2 := B1.trans (hb2.mono S1)
    have S2 : B ≤ w2.heap.size := Nat.le_trans S1 hb2.size
    have E2 := hide (unhide E _ _ _ _ _ _ _ _ (unhide he))
    clear O1 c0 c1 hb2 B1 S1 E
    go_wp2_with (at_builtin; refine wpList_append_own _ rfl _ _ 22 rfl B 5 i0 (.int .u8 0) 1 1 Try.underlying22 hi hz0 hz1 hz2 rfl (by decide) _ _ _ rfl (O2.alloc _) ⟨w2.heap.size, 0, none⟩ 8 8 ([b0, b1, b2, b3, b4, b5, b6, b7].map (Value.int .u8)) rfl rfl cells_new (all_u8 _) (by unfold maxLen; omega) (by omega) (by simp; omega) ?_)
    intro v3 w3 hown3 hgrow3 _
    have O3 := hide (owns_apps (xs := ys) (ys := [b0, b1, b2, b3, b4, b5, b6, b7]) rfl hown3)
    have B3 := hide (below_app B2 S2 O2 hgrow3)
    clear O2 hown3 hgrow3 B2 S2
    go_wp2_with fail
    go_ret
    exact ⟨_, rfl, by rw [← unhide E2]; exact unhide O3, unhide B3⟩
  · have E := hide (show ∀ b0 b1 b2 b3 b4 b5 b6 b7, eights (frank f) 8 = [b0, b1, b2, b3, b4, b5, b6, b7] → zs ++ [2] ++ [b0, b1, b2, b3, b4, b5, b6, b7] = zs ++ pkey ⟨2, n, f, t⟩ from fun _ _ _ _ _ _ _ _ h => by simp [pkey, h])
    go_enter Try.func49, Try.ntmps49
    go_wp2_with (at_builtin; refine wpList_append_own _ rfl _ _ 22 rfl B 5 i0 (.int .u8 0) 1 1 Try.underlying22 hi hz0 hz1 hz2 rfl (by decide) _ _ _ rfl ((ho.alloc _).alloc _) ⟨w.heap.size + 1, 0, none⟩ 1 1 [.int .u8 2] rfl rfl cells_new1 (one_u8 _) (by unfold maxLen; omega) (by omega) (by simp; omega) ?_)
    intro v1 w1 hown1 hgrow1 _
    have O1 := owns_app hown1
    have B1 := below_app ((Below.refl B w).alloc hB _) (by simp; omega) (ho.alloc _) hgrow1
    have c0 : w1.cell? ⟨w.heap.size, 0, none⟩ = some (.int .i64 2) := hgrow1.cell (by simp) (unhide far)
    have c1 : w1.cell? ⟨w.heap.size, 2, none⟩ = some (.float .f64 f) := hgrow1.cell (by simp) (unhide far)
    have S1 : B ≤ w1.heap.size := Nat.le_trans hB B1.size
    have L := unhide L1 2
    clear ho hown1 hgrow1 hz
    generalize hys : zs ++ [(2 : Int)] = ys at *
    have Y := hide hys
    clear hys
    go_wp2_with fail
    refine (floatRank_any f _ hf).mono ?_
    rintro e w2 ⟨rfl, rfl⟩
    go_wp2_with fail
    refine (eightOf_lit _ _).mono ?_
    rintro e w2 ⟨b0, b1, b2, b3, b4, b5, b6, b7, rfl, he, hb2⟩
    have O2 := owns_below O1 hb2
    have B2 : Below B w w2 := B1.trans (hb2.mono S1)
    have S2 : B ≤ w2.heap.size := Nat.le_trans S1 hb2.size
    have E2 := hide (unhide E _ _ _ _ _ _ _ _ (unhide he))
    clear O1 c0 c1 hb2 B1 S1 E
    go_wp2_with (at_builtin; refine wpList_append_own _ rfl _ _ 22 rfl B 5 i0 (.int .u8 0) 1 1 Try.underlying22 hi hz0 hz1 hz2 rfl (by decide) _ _ _ rfl (O2.alloc _) ⟨w2.heap.size, 0, none⟩ 8 8 ([b0, b1, b2, b3, b4, b5, b6, b7].map (Value.int .u8)) rfl rfl cells_new (all_u8 _) (by unfold maxLen; omega) (by omega) (by simp; omega) ?_)
    intro v3 w3 hown3 hgrow3 _
    have O3 := hide (owns_apps (xs := ys) (ys := [b0, b1, b2, b3, b4, b5, b6, b7]) rfl hown3)
    have B3 := hide (below_app B2 S2 O2 hgrow3)
    clear O2 hown3 hgrow3 B2 S2
    go_wp2_with fail
    go_ret
    exact ⟨_, rfl, by rw [← unhide E2]; exact unhide O3, unhide B3⟩
  · have E := hide (show zs ++ [3] ++ esc t.data.toList ++ [0, 1] = zs ++ pkey ⟨3, n, f, t⟩ by simp [pkey])
    go_enter Try.func49, Try.ntmps49
    go_wp2_with (at_builtin; refine wpList_append_own _ rfl _ _ 22 rfl B 5 i0 (.int .u8 0) 1 1 Try.underlying22 hi hz0 hz1 hz2 rfl (by decide) _ _ _ rfl ((ho.alloc _).alloc _) ⟨w.heap.size + 1, 0, none⟩ 1 1 [.int .u8 3] rfl rfl cells_new1 (one_u8 _) (by unfold maxLen; omega) (by omega) (by simp; omega) ?_)
    intro v1 w1 hown1 hgrow1 _
    have O1 := owns_app hown1
    have B1 := below_app ((Below.refl B w).alloc hB _) (by simp; omega) (ho.alloc _) hgrow1
    have c0 : w1.cell? ⟨w.heap.size, 0, none⟩ = some (.int .i64 3) := hgrow1.cell (by simp) (unhide far)
    have c1 : w1.cell? ⟨w.heap.size, 3, none⟩ = some (.string t) := hgrow1.cell (by simp) (unhide far)
    have S1 : B ≤ w1.heap.size := Nat.le_trans hB B1.size
    have L := unhide L1 3
    clear ho hown1 hgrow1 hz
    generalize hys : zs ++ [(3 : Int)] = ys at *
    have Y := hide hys
    clear hys
    have hts : t.size ≤ 1000000 := by omega
    have hyl : ys.length ≤ 10000000 := by omega
    go_wp2_with fail
    refine (appendText_any B v1 ys t w1 hts S1 hyl O1).mono ?_
    rintro e w2 ⟨v2, rfl, O2, hb2⟩
    have O3 := hide O2
    have B3 := hide (B1.trans hb2)
    clear O1 O2 c0 c1 hb2 B1 S1
    go_wp2_with fail
    go_ret
    exact ⟨_, rfl, by rw [← unhide E]; exact unhide O3, unhide B3⟩

set_option maxHeartbeats 1000000 in
theorem tupleKey_owns (a : Option Addr) (n c : Nat) (ps : List PartD) (w : World) (hn : n ≤ 1048576) (hr : PRow w a n ps) (ht : ∀ i (hi : i < ps.length), ps[i].t.size ≤ maxLen ∧ ps[i].f < 18446744073709551616) :
    Calls Try.prog 21 #[.slice a n c] w fun e w' => ∃ v, e = .returned (.tuple #[v, .int .i64 (tupC ps)]) ∧ Owns w' w.heap.size v (tupL ps) ∧ Below w.heap.size w w' := by
  have l1 := hr.1
  have L := hide hr.1
  have H := hide hr
  have T := hide ht
  clear hr ht
  by_cases hl : 4096 < n
  · have E := hide (tup_long (ps := ps) (by rw [l1]; exact hl))
    clear l1
    go_enter Try.func21, Try.ntmps21
    go_wp2_with fail
    go_ret2
    exact ⟨_, by rw [(unhide E).2]; rfl, by rw [(unhide E).1]; exact World.ownsRow_nil _ _ _ _, Below.refl _ _⟩
  have EB := hide (tup_bad (ps := ps) (by rw [l1]; exact hl))
  have EO := hide (tup_ok (ps := ps) (by rw [l1]; exact hl))
  clear l1
  go_enter Try.func21, Try.ntmps21
  go_wp2_with fail
  refine (partsOK_any a n c ps _ hn (unhide H) (fun i hi => (unhide T i hi).1)).mono ?_
  rintro e w1 ⟨rfl, hb1⟩
  cases ho1 : oksD ps
  · have E := hide (unhide EB ho1)
    clear ho1
    go_wp2_with fail
    go_ret2
    exact ⟨_, by rw [(unhide E).2]; rfl, by rw [(unhide E).1]; exact World.ownsRow_nil _ _ _ _, hb1⟩
  have E := hide (unhide EO ho1)
  have AL := hide (oks_all ho1)
  clear ho1 EB EO
  go_wp2_with fail
  go_loopw [4, 15] (fun v i wr => ∃ k : Nat, k ≤ n ∧ i = .int .i64 k ∧ Owns wr w.heap.size v (tkey (ps.take k)) ∧ Below w.heap.size w wr) (fun _ i _ => n - (intOf i).toNat)
  case atStart => exact ⟨0, by omega, rfl, World.ownsRow_nil _ _ _ _, hb1⟩
  case round =>
    clear hb1
    obtain ⟨k, hk, rfl, ho, hb⟩ := hrel
    by_cases hlt : k < n
    · have hk2 : k < ps.length := by rw [unhide L]; exact hlt
      obtain ⟨b, off, rfl, c0, c1, c2, c3⟩ := (unhide H).2 k hk2
      have hbl : b < w.heap.size := cell_lt c0
      have d0 := (hb.cell (p := ⟨b, off + k * 4, none⟩) hbl).trans c0
      have d1 := (hb.cell (p := ⟨b, off + k * 4 + 1, none⟩) hbl).trans c1
      have d2 := (hb.cell (p := ⟨b, off + k * 4 + 2, none⟩) hbl).trans c2
      have d3 := (hb.cell (p := ⟨b, off + k * 4 + 3, none⟩) hbl).trans c3
      have hf := (unhide T k hk2).2
      have ST := hide (tkey_step hk2)
      have hok : okD ps[k] = true := by
        have := (unhide AL).2
        rw [List.all_eq_true] at this
        exact this _ (List.getElem_mem hk2)
      have hlen : (tkey (ps.take k)).length ≤ 1000000 := by
        have h1 := tkey_length (all_take (unhide AL).2 k)
        have h2 : (ps.take k).length ≤ 6 := Nat.le_trans (by rw [List.length_take]; exact Nat.min_le_right _ _) (unhide AL).1
        omega
      clear c0 c1 c2 c3
      generalize ps[k] = pd at *
      generalize tkey (ps.take k) = zs at *
      have hsz := hb.size
      have O := hide ho
      clear ho
      go_wp2_with fail
      refine (appendPart_any w.heap.size _ zs pd _ hok hf (by simp; omega) hlen ((unhide O).alloc _)).mono ?_
      rintro e w2 ⟨v2, rfl, ho2, hb2⟩
      have bA : Below w.heap.size w w2 := (hb.alloc hsz _).trans hb2
      have O2 := hide ho2
      clear hb hb2 d0 d1 d2 d3 ho2 O
      go_wp2_with fail
      go_roundw
      case rel => exact ⟨k + 1, by omega, by go_num, by rw [unhide ST]; exact unhide O2, bA⟩
      case measure => simp [intOf]; omega
    · obtain rfl : k = n := by omega
      rw [List.take_of_length_le (by rw [unhide L]; exact Nat.le_refl _)] at ho
      have M := hide ho
      clear ho
      go_wp2_with fail
      go_ret2
      exact ⟨_, by rw [(unhide E).2]; rfl, by rw [(unhide E).1]; exact unhide M, hb⟩
theorem tupleKey_any (a : Option Addr) (n c : Nat) (ps : List PartD) (w : World) (hn : n ≤ 1048576) (hr : PRow w a n ps) (ht : ∀ i (hi : i < ps.length), ps[i].t.size ≤ maxLen ∧ ps[i].f < 18446744073709551616) :
    Calls Try.prog 21 #[.slice a n c] w fun e w' => ∃ v, e = .returned (.tuple #[v, .int .i64 (tupC ps)]) ∧ Mine w' w.heap.size v (tupL ps) ∧ Below w.heap.size w w' := by
  refine (tupleKey_owns a n c ps w hn hr ht).mono ?_
  rintro e w' ⟨v, rfl, ho, hb⟩
  exact ⟨v, rfl, mine_of_owns ho, hb⟩
end Go.Proofs.Ytgifcaeemfaihaa
