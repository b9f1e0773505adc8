/-
  slices.DeleteFunc over texts of the call's own: those that are empty.
-/
import Derived.Test.YtmogcfiioajaeaaDoorAlT
namespace Go.Proofs.YtmogcfiioajaeaaDoor
open Go.RowKit

theorem grown_setRow (w : World) (g : Nat) (cs : Array Value) : w.grownBy (w.setRow g cs) (some g) :=
  ⟨rfl, rfl, rfl, by simp, fun k _ hk => setRow_other w g k cs (fun e => hk (by rw [e]))⟩
/-- A text that is not empty. -/
def fullT (k : ByteArray) : Bool := !k.toList.isEmpty
theorem emptyT_any (k : ByteArray) (w : World) :
    Calls Tryd.prog 25 #[.string k] w fun e w' => e = .returned (.bool (!fullT k)) ∧ w' = w := by
  have E : (!fullT k) = k.toList.isEmpty := by unfold fullT; rw [Bool.not_not]
  rw [E]
  clear E
  go_enter Tryd.func25, Tryd.ntmps25
  go_wp2_with fail
  go_ret
  exact ⟨rfl, rfl⟩
set_option maxRecDepth 100000 in
set_option maxHeartbeats 4000000 in
theorem indexT_any (a : Option Addr) (n c : Nat) (ds : List ByteArray) (w : World) (hn : n ≤ 1048576) (hr : StrRow w a n ds) :
    Calls Tryd.prog 30 #[.slice a n c, .func (.func 25) #[] #[]] w fun e w' => ∃ r : Int, e = .returned (.int .i64 r) ∧ ((r = -1 ∧ ds.filter (fullT) = ds) ∨ ∃ i : Nat, r = (i : Int) ∧ i < n ∧ (ds.take (i + 1)).filter (fullT) = ds.take i) ∧ Below w.heap.size w w' := by
  have L := hide hr.1
  have R := hide hr
  clear hr
  go_enter Tryd.func30, Tryd.ntmps30
  go_wp2_with fail
  go_loopw [8] (fun i wr => ∃ k : Nat, k ≤ n ∧ i = .int .i64 k ∧ Hid ((ds.take k).filter (fullT) = ds.take k) ∧ Below w.heap.size w wr) (fun i _ => n - (intOf i).toNat)
  case atStart => exact ⟨0, by omega, rfl, rfl, Below.refl _ _⟩
  case round =>
    obtain ⟨k, hk, rfl, hok, hb⟩ := hrel
    by_cases hlt : k < n
    · have hk2 : k < ds.length := by rw [unhide L]; exact hlt
      obtain ⟨b, off, rfl, d0⟩ := ((unhide R).below hb).2 k hk2
      have hsz := hb.size
      have C := hide (emptyT_any ds[k] wr)
      have F := hide (show ∀ b, (!fullT ds[k]) = b → (ds.take (k + 1)).filter (fullT) = if b then ds.take k else ds.take (k + 1) from fun b hb => by
        rw [rb_take_snoc ds k hk2, List.filter_append, unhide hok]
        cases b with
        | true => rw [List.filter_cons_of_neg (by cases h0 : fullT ds[k] <;> simp_all)]; simp
        | false => rw [List.filter_cons_of_pos (by cases h0 : fullT ds[k] <;> simp_all)]; rfl)
      generalize ds[k] = pd at *
      clear hok
      cases ht : (!fullT pd) with
      | false =>
        rw [ht] at C
        have Z := hide (unhide F false ht)
        clear F ht
        go_wp2_with fail
        refine (unhide C).mono ?_
        rintro e w1 ⟨rfl, rfl⟩
        have bA : Below w.heap.size w w1 := hb
        clear hb d0 C
        go_wp2_with fail
        go_roundw
        case rel => exact ⟨k + 1, by omega, by go_num, unhide Z, bA⟩
        case measure => simp [intOf]; omega
      | true =>
        rw [ht] at C
        have Z := hide (unhide F true ht)
        clear F ht
        go_wp2_with fail
        refine (unhide C).mono ?_
        rintro e w1 ⟨rfl, rfl⟩
        have bA : Below w.heap.size w w1 := hb
        clear hb d0 C
        go_wp2_with fail
        go_ret
        exact ⟨k, rfl, .inr ⟨k, rfl, hlt, unhide Z⟩, bA⟩
    · obtain rfl : k = n := by omega
      have Z := hide (show ds.filter (fullT) = ds by
        have h := unhide hok
        rwa [List.take_of_length_le (by rw [unhide L]; exact Nat.le_refl _)] at h)
      go_wp2_with fail
      go_ret
      exact ⟨-1, rfl, .inl ⟨rfl, unhide Z⟩, hb⟩
theorem strFilT_len {ds : List ByteArray} (j : Nat) : ((ds.take j).filter (fullT)).length ≤ j := by
  have h1 := List.length_filter_le (fullT) (ds.take j)
  rw [List.length_take] at h1
  omega
/-- What stands there when j fences have been looked at. -/
def delT (ds : List ByteArray) (j : Nat) : List ByteArray := (ds.take j).filter (fullT) ++ ds.drop ((ds.take j).filter (fullT)).length
theorem delT_len {ds : List ByteArray} {j : Nat} (hj : j ≤ ds.length) : (delT ds j).length = ds.length := by
  have := strFilT_len (ds := ds) j
  unfold delT
  rw [List.length_append, List.length_drop]
  omega
theorem delT_at {ds : List ByteArray} {j : Nat} (hj : j < ds.length) (h : j < (delT ds j).length) : (delT ds j)[j] = ds[j] := by
  have h1 := strFilT_len (ds := ds) j
  have h2 : (delT ds j)[j]? = ds[j]? := by
    unfold delT
    rw [List.getElem?_append_right h1, List.getElem?_drop]
    congr 1
    omega
  rw [List.getElem?_eq_getElem h, List.getElem?_eq_getElem hj] at h2
  injection h2
theorem delT_keep {ds : List ByteArray} {j : Nat} (hj : j < ds.length) (h : fullT ds[j] = true) : delT ds (j + 1) = (delT ds j).set ((ds.take j).filter (fullT)).length ds[j] ∧ ((ds.take (j + 1)).filter (fullT)).length = ((ds.take j).filter (fullT)).length + 1 := by
  have h1 := strFilT_len (ds := ds) j
  have e : (ds.take (j + 1)).filter (fullT) = (ds.take j).filter (fullT) ++ [ds[j]] := by rw [rb_take_snoc ds j hj, List.filter_append, List.filter_cons_of_pos h, List.filter_nil]
  refine ⟨?_, by rw [e, List.length_append]; rfl⟩
  unfold delT
  rw [e, List.length_append, List.set_append_right _ _ (Nat.le_refl _), Nat.sub_self, List.drop_eq_getElem_cons (show ((ds.take j).filter (fullT)).length < ds.length by omega), List.set_cons_zero, List.append_assoc]
  rfl
theorem delT_skip {ds : List ByteArray} {j : Nat} (hj : j < ds.length) (h : fullT ds[j] = false) : (ds.take (j + 1)).filter (fullT) = (ds.take j).filter (fullT) := by
  rw [rb_take_snoc ds j hj, List.filter_append, List.filter_cons_of_neg (by rw [h]; decide), List.filter_nil, List.append_nil]
set_option maxRecDepth 100000 in
set_option maxHeartbeats 8000000 in
theorem deleteT_any (B : Nat) (a : Option Addr) (n c : Nat) (ds : List ByteArray) (w : World) (hn : n ≤ 100000) (hO : StrOwns w B (.slice a n c) ds) (_hB : B ≤ w.heap.size) :
    Calls Tryd.prog 24 #[.slice a n c, .func (.func 25) #[] #[]] w fun e w' => ∃ v', e = .returned v' ∧ StrOwns w' B v' (ds.filter (fullT)) ∧ w.grownBy w' (Value.slice a n c).ownBlock := by
  have hr := strrow_own hO
  have L := hide hr.1
  have HI := hide (indexT_any a n c ds w (by omega) hr)
  have O := hide hO
  clear hO hr
  go_enter Tryd.func24, Tryd.ntmps24
  go_wp2_with fail
  refine (unhide HI).mono ?_
  rintro e w1 ⟨r, rfl, hr, hb1⟩
  have O1 := hide (rb_ownsRow_below (unhide O) hb1)
  clear HI
  rcases hr with ⟨rfl, hall⟩ | ⟨i, rfl, hi, hfi⟩
  · have RES := hide (show StrOwns w1 B (.slice a n c) (ds.filter (fullT)) by rw [hall]; exact unhide O1)
    have G := hide (rb_grownBy_below (r := (Value.slice a n c).ownBlock) hb1)
    clear hall hb1 O O1
    go_wp2_with fail
    go_ret
    exact ⟨_, rfl, unhide RES, unhide G⟩
  have hib : ((i : Int) == -1) = false := by rw [beq_eq_false_iff_ne]; omega
  have hnl : n = ds.length := (unhide L).symm
  have hil : i < ds.length := by omega
  obtain ⟨g, cur0, ha, -, hbg, -⟩ := strowns_form (unhide O1) (by omega)
  subst ha
  have FI := hide (show ((ds.take (i + 1)).filter (fullT)).length = i by rw [hfi, List.length_take]; omega)
  have S0 := hide (show StrOwns w1 B (.slice (some ⟨g, 0, none⟩) n c) (delT ds (i + 1)) by
    have e : delT ds (i + 1) = ds := by
      unfold delT
      rw [hfi, List.length_take, Nat.min_eq_left (by omega), List.take_append_drop]
    rw [e]
    exact unhide O1)
  have G1 := hide (rb_grownBy_below (r := some g) hb1)
  have LT := hide (show ((ds.take (i + 1)).filter (fullT)).length < i + 1 by rw [unhide FI]; omega)
  have NL := hide hnl
  clear hnl hil hfi O O1 hb1 hbg
  go_wp2_with fail
  go_loopw [5, 6] (fun iv jv wr => ∃ (k j : Nat), iv = .int .i64 (k : Int) ∧ jv = .int .i64 (j : Int) ∧ j ≤ n ∧ k < j ∧ Hid (((ds.take j).filter (fullT)).length = k) ∧ Hid (StrOwns wr B (.slice (some ⟨g, 0, none⟩) n c) (delT ds j)) ∧ Hid (w.grownBy wr (some g))) (fun _ jv _ => n - (intOf jv).toNat)
  case atStart => exact ⟨i, i + 1, rfl, by go_num, by omega, by omega, FI, S0, G1⟩
  case round =>
    clear S0 G1 FI LT
    obtain ⟨k, j, rfl, rfl, hj, hkj, hF, hO, hG⟩ := hrel
    by_cases hlt : j < n
    · have hjl : j < ds.length := by rw [← unhide NL]; exact hlt
      have hjd : j < (delT ds j).length := by rw [delT_len (by omega)]; exact hjl
      have d0 := strowns_at (unhide hO) j hjd
      rw [delT_at hjl hjd] at d0
      have KP := hide (fun h => delT_keep hjl h)
      have SKP := hide (fun h => delT_skip hjl h)
      have hkd : k < (delT ds j).length := by omega
      have t0 := strowns_at (unhide hO) k hkd
      have f0 := strowns_fz (unhide hO) k
      generalize (delT ds j)[k] = tk at *
      obtain ⟨b, hb⟩ : ∃ b, b = fullT ds[j] := ⟨_, rfl⟩
      rw [← hb] at KP SKP
      have ST := hide (strowns_store (unhide hO) k ds[j])
      have C := hide (emptyT_any ds[j] wr)
      rw [← hb] at C
      clear hb
      generalize hdj : ds[j] = dj at *
      cases b with
      | true =>
        obtain ⟨e1, e2⟩ := unhide KP rfl
        rw [unhide hF] at e1 e2
        clear KP SKP hdj
        have O4 := hide (show StrOwns (wr.setCell ⟨g, k, none⟩ (.string dj)) B (.slice (some ⟨g, 0, none⟩) n c) (delT ds (j + 1)) by rw [e1]; exact unhide ST)
        have G4 := hide (show w.grownBy (wr.setCell ⟨g, k, none⟩ (.string dj)) (some g) from rb_grown_trans (unhide hG) ⟨rfl, rfl, rfl, by simp [World.setCell], fun i _ hne => Below.heap_setCell _ _ _ _ (fun e => hne (by rw [e]))⟩)
        have E2 := hide e2
        have hkn : k < n := by omega
        clear hO hG hF e1 e2 ST hkd
        go_wp2_with fail
        refine (unhide C).mono ?_
        rintro e w3 ⟨rfl, rfl⟩
        clear C
        go_wp2_with fail
        go_roundw
        case rel => exact ⟨k + 1, j + 1, by go_num, by go_num, by omega, by omega, E2, O4, G4⟩
        case measure => simp [intOf]; omega
      | false =>
        have e1 := unhide SKP rfl
        have F2 := hide (show ((ds.take (j + 1)).filter (fullT)).length = k by rw [e1]; exact unhide hF)
        have O4 := hide (show StrOwns wr B (.slice (some ⟨g, 0, none⟩) n c) (delT ds (j + 1)) by
          have D2 : delT ds (j + 1) = delT ds j := by unfold delT; rw [e1]
          rw [D2]
          exact unhide hO)
        have G4 := hide (unhide hG)
        clear KP SKP hdj e1 t0 f0 hO hG hF ST hkd
        go_wp2_with fail
        refine (unhide C).mono ?_
        rintro e w3 ⟨rfl, rfl⟩
        clear C
        go_wp2_with fail
        go_roundw
        case rel => exact ⟨k, j + 1, rfl, by go_num, by omega, by omega, F2, O4, G4⟩
        case measure => simp [intOf]; omega
    · obtain rfl : j = n := by omega
      have hjd := delT_len (ds := ds) (j := j) (by rw [← unhide NL]; exact Nat.le_refl _)
      obtain ⟨g', cur, e1, -, hbg, hgh, h1, h2, h3, h4⟩ := strowns_form (unhide hO) (by rw [hjd, ← unhide NL]; omega)
      injection e1 with e1
      injection e1 with e1 _ _
      subst e1
      have RJ := fun ty => run_clearS wr ty g k (j - k) (c - k) cur hgh (by rw [h3]; omega) (by omega)
      obtain ⟨NR, hNR⟩ : ∃ NR, NR = (cur.toList.take k ++ zS (j - k) ++ cur.toList.drop (k + (j - k) * 1)).toArray := ⟨_, rfl⟩
      rw [← hNR] at RJ
      have hW := setRow_heap wr g cur NR _ _ hgh
      have FL := hide (show (ds.filter (fullT)).length = k by
        have h := unhide hF
        rwa [List.take_of_length_le (by rw [← unhide NL]; exact Nat.le_refl _)] at h)
      have OF := hide (show StrOwns (wr.setRow g NR) B (.slice (some ⟨g, 0, none⟩) k c) (ds.filter (fullT)) by
        have hDJ : delT ds j = ds.filter (fullT) ++ ds.drop (ds.filter (fullT)).length := by
          unfold delT
          rw [List.take_of_length_le (by rw [← unhide NL]; exact Nat.le_refl _)]
        have h5 : cur.toList.take k = (ds.filter (fullT)).map Value.string := by
          have h6 : (cur.toList.take (j * 1)).take k = cur.toList.take k := by rw [List.take_take, Nat.min_eq_left (by omega)]
          rw [← h6, h4, ← List.map_take, hDJ, List.take_append_of_le_length (by rw [unhide FL]; exact Nat.le_refl _), List.take_of_length_le (by rw [unhide FL]; exact Nat.le_refl _)]
        have h7 := unhide FL
        unfold StrOwns
        rw [h7]
        refine ⟨by rw [List.length_map, h7, Nat.mul_one], .inr ⟨g, c, _, rfl, hbg, hW, by omega, h2, ?_, ?_⟩⟩
        · rw [hNR]; simp [zS_len, h3]; omega
        · rw [hNR, List.append_assoc, Nat.mul_one]
          show ((cur.toList.take k ++ (zS (j - k) ++ cur.toList.drop (k + (j - k) * 1))).toArray.toList).take k = _
          rw [List.toList_toArray, List.take_append_of_le_length (by simp [h3]; omega), List.take_take, Nat.min_self]
          exact h5)
      have GF := hide (show w.grownBy (wr.setRow g NR) (some g) from rb_grown_trans (unhide hG) (grown_setRow wr g NR))
      have hck : ¬ (c = k) := by omega
      have hkj' : k ≤ j := by omega
      clear hNR hW h4 h3 hgh hO hG hF hjd
      go_wp2_with fail
      go_ret
      exact ⟨_, rfl, unhide OF, unhide GF⟩
end Go.Proofs.YtmogcfiioajaeaaDoor
