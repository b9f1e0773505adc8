/-
  VeD, VsA, VsB, VeS, AppL, VpA, TxA, Bytes, Mark, MarkB, HeldB, RowR, GdA, VnC, SeA, GdP, TxB, TxC, TxE, KdA in one.
-/
import Derived.Test.YtfajenejngddeaaGreatVeL
import Derived.Sort.KeysCollected
import Derived.Sort.Walk0
import Derived.Test.YtfajenejngddeaaGreatVrL
import Derived.Test.YtfajenejngddeaaGreatTakes
import Derived.Deep.Cut
import Derived.Test.YtfajenejngddeaaGreatRowB
import Derived.Test.YtfajenejngddeaaGreatVrT
import Derived.Test.YtfajenejngddeaaGreatFnT
import Derived.Test.YtfajenejngddeaaGreatWrT
import Derived.Test.YtfajenejngddeaaGreatTxL
import Derived.Test.YtfajenejngddeaaGreatOwn
import Derived.Test.YtfajenejngddeaaGreatVrC
import Derived.Test.YtfajenejngddeaaGreatSsA
import Derived.Deep.RegionWith
namespace Go.Proofs.YtfajenejngddeaaGreat
open Go.RowKit Go.Maps

/-- The keys of the first so many, each once. -/
def dkTo (ds : List VerD) : Nat → List ByteArray
  | 0 => []
  | j + 1 => dkTo ds j ++ (if hi : j < ds.length then (if 0 < j ∧ (ds[j - 1]'(by omega)).k = ds[j].k then [] else [ds[j].k]) else [])
def dkeys (ds : List VerD) : List ByteArray := dkTo ds ds.length
theorem dk_again {ds : List VerD} {j : Nat} (hj : j < ds.length) (h : 0 < j ∧ (ds[j - 1]'(by omega)).k = ds[j].k) : dkTo ds (j + 1) = dkTo ds j := by
  simp only [dkTo, dif_pos hj, if_pos h, List.append_nil]
theorem dk_new {ds : List VerD} {j : Nat} (hj : j < ds.length) (h : ¬ (0 < j ∧ (ds[j - 1]'(by omega)).k = ds[j].k)) : dkTo ds (j + 1) = dkTo ds j ++ [ds[j].k] := by
  simp only [dkTo, dif_pos hj, if_neg h]
theorem ents_dk (ds : List VerD) (t : Int) : ∀ j, j ≤ ds.length → entsTo ds t j = (dkTo ds j).flatMap fun k => kvOf (verAt ds k t)
  | 0, _ => rfl
  | j + 1, hj => by
    have hj2 : j < ds.length := hj
    by_cases h : 0 < j ∧ (ds[j - 1]'(by omega)).k = ds[j].k
    · rw [dk_again hj2 h, ents_again hj2 h.1 h.2, ents_dk ds t j (by omega)]
    · rw [dk_new hj2 h, ents_new hj2 h, ents_dk ds t j (by omega), List.flatMap_append]
      simp
theorem dk_mem (ds : List VerD) (x : ByteArray) : ∀ j, j ≤ ds.length → (x ∈ dkTo ds j ↔ ∃ i, ∃ h : i < ds.length, i < j ∧ ds[i].k = x)
  | 0, _ => by simp [dkTo]
  | j + 1, hj => by
    have hj2 : j < ds.length := hj
    have ih := dk_mem ds x j (by omega)
    by_cases h : 0 < j ∧ (ds[j - 1]'(by omega)).k = ds[j].k
    · rw [dk_again hj2 h, ih]
      constructor
      · rintro ⟨i, hi, h1, h2⟩
        exact ⟨i, hi, by omega, h2⟩
      · rintro ⟨i, hi, h1, h2⟩
        by_cases e : i < j
        · exact ⟨i, hi, e, h2⟩
        · obtain rfl : i = j := by omega
          exact ⟨i - 1, by omega, by omega, h.2.trans h2⟩
    · rw [dk_new hj2 h, List.mem_append, ih, List.mem_singleton]
      constructor
      · rintro (⟨i, hi, h1, h2⟩ | h2)
        · exact ⟨i, hi, by omega, h2⟩
        · exact ⟨j, hj2, by omega, h2.symm⟩
      · rintro ⟨i, hi, h1, h2⟩
        by_cases e : i < j
        · exact .inl ⟨i, hi, e, h2⟩
        · obtain rfl : i = j := by omega
          exact .inr h2.symm
theorem okVs_lt2 {ds : List VerD} (h : okVs ds = true) {i j : Nat} (hj : j < ds.length) (hij : i < j) : ltV (ds[i]'(by omega)) ds[j] = true := List.pairwise_iff_getElem.1 (okVs_pair h) i j _ hj hij
theorem ltV_or {a b : VerD} (h : ltV a b = true) : ltK a.k b.k = true ∨ a.k = b.k := by
  unfold ltV at h
  simp only [Bool.or_eq_true, Bool.and_eq_true, decide_eq_true_eq] at h
  rcases h with h | h
  · exact .inl h
  · exact .inr h.1
theorem dk_rise {ds : List VerD} (ok : okVs ds = true) : ∀ j, j ≤ ds.length → (dkTo ds j).Pairwise fun a b => ltK a b = true
  | 0, _ => List.Pairwise.nil
  | j + 1, hj => by
    have hj2 : j < ds.length := hj
    have ih := dk_rise ok j (by omega)
    by_cases h : 0 < j ∧ (ds[j - 1]'(by omega)).k = ds[j].k
    · rw [dk_again hj2 h]
      exact ih
    · rw [dk_new hj2 h, List.pairwise_append]
      refine ⟨ih, List.pairwise_singleton _ _, fun a ha b hb => ?_⟩
      obtain rfl : b = ds[j].k := by simpa using hb
      obtain ⟨i, hi, hij, rfl⟩ := (dk_mem ds a j (by omega)).1 ha
      rcases ltV_or (okVs_lt2 ok hj2 hij) with e | e
      · exact e
      · exfalso
        have hp : ¬ (ds[j - 1]'(by omega)).k = ds[j].k := fun e => h ⟨by omega, e⟩
        by_cases e1 : i = j - 1
        · subst e1
          exact hp e
        · have h2 := ltV_or (okVs_lt2 ok (i := j - 1) hj2 (by omega))
          have h1 := ltV_or (okVs_lt2 ok (i := i) (j := j - 1) (by omega) (by omega))
          rcases h2 with h2 | h2
          · rcases h1 with h1 | h1
            · have := ltK_trans h1 h2
              rw [e, ltK_irr] at this
              exact absurd this (by decide)
            · rw [← h1, e, ltK_irr] at h2
              exact absurd h2 (by decide)
          · exact hp h2
theorem ltK_le {a b : ByteArray} (h : ltK a b = true) : a.data.toList < b.data.toList := by
  unfold ltK at h
  rw [ByteArray.toList_eq, ByteArray.toList_eq, bytesLess_eq] at h
  exact of_decide_eq_true h
/-- The keys as lists of bytes. -/
def dkB (ds : List VerD) : List (List UInt8) := (dkeys ds).map fun k => k.data.toList
theorem dkB_lt {ds : List VerD} (ok : okVs ds = true) : (dkB ds).Pairwise fun a b => a < b := List.pairwise_map.2 ((dk_rise ok _ (Nat.le_refl _)).imp fun h => ltK_le h)
theorem dkB_nodup {ds : List VerD} (ok : okVs ds = true) : (dkB ds).Nodup := (dkB_lt ok).imp fun {a b} h e => by subst e; exact List.lt_irrefl _ h
theorem dkB_sort {ds : List VerD} (ok : okVs ds = true) {ss : List (List UInt8)} (h : ss.Perm (dkB ds)) : ss.mergeSort (fun x y => decide (x ≤ y)) = dkB ds := by
  rw [mergeSort_of_perm h]
  refine List.mergeSort_of_pairwise ((dkB_lt ok).imp fun h => ?_)
  exact decide_eq_true (List.le_of_lt h)
theorem dkB_mem {ds : List VerD} (x : List UInt8) : x ∈ dkB ds ↔ ∃ i, ∃ h : i < ds.length, ds[i].k.data.toList = x := by
  unfold dkB dkeys
  rw [List.mem_map]
  constructor
  · rintro ⟨k, hk, rfl⟩
    obtain ⟨i, hi, _, rfl⟩ := (dk_mem ds k _ (Nat.le_refl _)).1 hk
    exact ⟨i, hi, rfl⟩
  · rintro ⟨i, hi, rfl⟩
    exact ⟨_, (dk_mem ds _ _ (Nat.le_refl _)).2 ⟨i, hi, hi, rfl⟩, rfl⟩
theorem dkTo_len (ds : List VerD) : ∀ j, (dkTo ds j).length ≤ j
  | 0 => by simp [dkTo]
  | j + 1 => by
    have := dkTo_len ds j
    simp only [dkTo, List.length_append]
    split
    · split <;> simp <;> omega
    · simp; omega
theorem grp_ne {ds : List VerD} {k : ByteArray} : grp ds k ≠ [] ↔ ∃ i, ∃ h : i < ds.length, ds[i].k = k := by
  constructor
  · intro h
    obtain ⟨d, hd⟩ := List.exists_mem_of_ne_nil _ h
    obtain ⟨h1, h2⟩ := List.mem_filter.1 hd
    obtain ⟨i, hi, rfl⟩ := List.getElem_of_mem h1
    exact ⟨i, hi, of_decide_eq_true h2⟩
  · rintro ⟨i, hi, rfl⟩ e
    have : ds[i] ∈ grp ds ds[i].k := List.mem_filter.2 ⟨List.getElem_mem hi, decide_eq_true rfl⟩
    rw [e] at this
    exact absurd this (List.not_mem_nil)
end Go.Proofs.YtfajenejngddeaaGreat

namespace Go.Proofs.YtfajenejngddeaaGreat
open Go.RowKit

theorem vs_l01In (n a b : Int) (w : World) : Calls Tryz.prog 55 #[.int .i64 n, .int .i64 a, .int .i64 b] w fun e w' => e = .returned (.bool (decide (a ≤ n) && decide (n ≤ b))) ∧ w' = w := by
  by_cases h : a ≤ n
  · have E := hide (show decide (n ≤ b) = (decide (a ≤ n) && decide (n ≤ b)) by rw [decide_eq_true h]; rfl)
    go_enter Tryz.func55, Tryz.ntmps55
    go_wp2_with fail
    go_ret
    exact ⟨ret_bool (unhide E), rfl⟩
  · have E := hide (show false = (decide (a ≤ n) && decide (n ≤ b)) by rw [decide_eq_false h]; rfl)
    go_enter Tryz.func55, Tryz.ntmps55
    go_wp2_with fail
    go_ret
    exact ⟨ret_bool (unhide E), rfl⟩
theorem vs_l04Key (k : ByteArray) (w : World) : Calls Tryz.prog 56 #[.string k] w fun e w' => e = .returned (.bool (keyK k)) ∧ w' = w := by
  by_cases h : 0 < k.size
  · have E := hide (show decide ((k.size : Int) ≤ 40) = keyK k by unfold keyK; rw [decide_eq_decide]; omega)
    go_enter Tryz.func56, Tryz.ntmps56
    go_wp2_with fail
    go_ret
    exact ⟨ret_bool (unhide E), rfl⟩
  · have E := hide (show false = keyK k by unfold keyK; rw [decide_eq_false]; omega)
    go_enter Tryz.func56, Tryz.ntmps56
    go_wp2_with fail
    go_ret
    exact ⟨ret_bool (unhide E), rfl⟩
theorem vs_ne {a b : ByteArray} (h : ¬ a = b) : (a.toList == b.toList) = false := by
  cases hq : (a.toList == b.toList) with
  | false => rfl
  | true =>
    refine absurd ?_ h
    have e : a.toList = b.toList := by simpa using hq
    rw [ByteArray.toList_eq, ByteArray.toList_eq] at e
    cases a
    cases b
    simp_all
set_option maxHeartbeats 2000000 in
theorem l06Right_any (d : VerD) (w : World) : Calls Tryz.prog 72 #[vv d] w fun e w' => e = .returned (.bool (verK d)) ∧ Below w.heap.size w w' := by
  obtain ⟨k, t, v, g⟩ := d
  unfold vv
  have B0 := hide (show Below w.heap.size w (w.alloc (.cells #[.string k, .int .i64 t, .string v, .bool g] 39)) from (Below.refl _ _).alloc (Nat.le_refl _) _)
  have E := hide (show ∀ a c : Bool, keyK k = a → idK t = c → (a && decide (v.size ≤ 100) && c && (!g || v.toList.isEmpty)) = verK ⟨k, t, v, g⟩ from fun a c ha hc => by subst ha hc; rfl)
  have S1 := hide (vs_l04Key k)
  have S3 := hide (show ∀ w, Calls Tryz.prog 55 #[.int .i64 t, .int .i64 0, .int .i64 1000] w fun e w' => e = .returned (.bool (idK t)) ∧ w' = w from fun w => by
    have := vs_l01In t 0 1000 w
    rw [show (decide (0 ≤ t) && decide (t ≤ 1000)) = idK t by unfold idK; rw [Bool.decide_and]] at this
    exact this)
  generalize hka : keyK k = ka at *
  generalize hia : idK t = ia at *
  replace E := hide (unhide E ka ia rfl rfl)
  generalize verK ⟨k, t, v, g⟩ = R at *
  clear hka hia
  cases ka
  · have F := hide (show false = R by rw [← unhide E]; simp)
    clear E
    go_enter Tryz.func72, Tryz.ntmps72
    go_wp2_with (go_at_call 56; refine (unhide S1 _).mono ?_; rintro e w1 ⟨rfl, rfl⟩)
    go_ret
    exact ⟨ret_bool (unhide F), unhide B0⟩
  · by_cases hv : v.size ≤ 100
    · have hv' : (v.size : Int) ≤ 100 := by omega
      cases g
      · have F := hide (show ia = R by rw [← unhide E]; simp [hv])
        clear E
        go_enter Tryz.func72, Tryz.ntmps72
        go_wp2_with (first | (go_at_call 56; refine (unhide S1 _).mono ?_; rintro e w1 ⟨rfl, rfl⟩) | (go_at_call 55; refine (unhide S3 _).mono ?_; rintro e w1 ⟨rfl, rfl⟩))
        go_ret
        exact ⟨ret_bool (unhide F), unhide B0⟩
      · cases hz : v.toList.isEmpty
        · have F := hide (show false = R by rw [← unhide E]; simp [hz])
          clear E
          go_enter Tryz.func72, Tryz.ntmps72
          go_wp2_with (first | (go_at_call 56; refine (unhide S1 _).mono ?_; rintro e w1 ⟨rfl, rfl⟩) | (go_at_call 55; refine (unhide S3 _).mono ?_; rintro e w1 ⟨rfl, rfl⟩))
          go_ret
          exact ⟨ret_bool (unhide F), unhide B0⟩
        · have F := hide (show ia = R by rw [← unhide E]; simp [hv, hz])
          clear E
          go_enter Tryz.func72, Tryz.ntmps72
          go_wp2_with (first | (go_at_call 56; refine (unhide S1 _).mono ?_; rintro e w1 ⟨rfl, rfl⟩) | (go_at_call 55; refine (unhide S3 _).mono ?_; rintro e w1 ⟨rfl, rfl⟩))
          go_ret
          exact ⟨ret_bool (unhide F), unhide B0⟩
    · have hv' : ¬ (v.size : Int) ≤ 100 := by omega
      have F := hide (show false = R by rw [← unhide E]; simp [hv])
      clear E
      go_enter Tryz.func72, Tryz.ntmps72
      go_wp2_with (go_at_call 56; refine (unhide S1 _).mono ?_; rintro e w1 ⟨rfl, rfl⟩)
      go_ret
      exact ⟨ret_bool (unhide F), unhide B0⟩
set_option maxHeartbeats 2000000 in
theorem l06Before_any (a b : VerD) (w : World) : Calls Tryz.prog 73 #[vv a, vv b] w fun e w' => e = .returned (.bool (ltV a b)) ∧ Below w.heap.size w w' := by
  obtain ⟨k, t, v, g⟩ := a
  obtain ⟨k', t', v', g'⟩ := b
  unfold vv
  have B0 := hide (show Below w.heap.size w ((w.alloc (.cells #[.string k, .int .i64 t, .string v, .bool g] 39)).alloc (.cells #[.string k', .int .i64 t', .string v', .bool g'] 39)) from ((Below.refl _ _).alloc (Nat.le_refl _) _).alloc (by simp) _)
  by_cases h : k = k'
  · subst h
    have F := hide (show decide (t < t') = ltV ⟨k, t, v, g⟩ ⟨k, t', v', g'⟩ by unfold ltV; rw [ltK_irr]; simp)
    generalize ltV ⟨k, t, v, g⟩ ⟨k, t', v', g'⟩ = R at *
    go_enter Tryz.func73, Tryz.ntmps73
    go_wp2_with fail
    go_ret
    exact ⟨ret_bool (unhide F), unhide B0⟩
  · have F := hide (show Op.bytesLess k.toList k'.toList = ltV ⟨k, t, v, g⟩ ⟨k', t', v', g'⟩ by unfold ltV ltK; simp [h])
    generalize ltV ⟨k, t, v, g⟩ ⟨k', t', v', g'⟩ = R at *
    have hne := vs_ne h
    go_enter Tryz.func73, Tryz.ntmps73
    go_wp2_with fail
    go_ret
    exact ⟨ret_bool (unhide F), unhide B0⟩
end Go.Proofs.YtfajenejngddeaaGreat

namespace Go.Proofs.YtfajenejngddeaaGreat
open Go.RowKit

theorem vs_step {ds : List VerD} {k : Nat} {b : Bool} (hk : k < ds.length) (hok : ∀ i, i < k → okAtV ds i = true) (h : okAtV ds k = b) : if b = true then ∀ i, i < k + 1 → okAtV ds i = true else okVs ds = false := by
  cases b
  · exact okVs_false hk h
  · intro i hi
    by_cases e : i < k
    · exact hok i e
    · rw [show i = k by omega]; exact h
set_option maxRecDepth 100000 in
set_option maxHeartbeats 8000000 in
theorem l06List_any (a : Option Addr) (n c : Nat) (ds : List VerD) (w : World) (hn : n ≤ 1048576) (hr : VRow w a n ds) :
    Calls Tryz.prog 30 #[.slice a n c] w fun e w' => e = .returned (.bool (okVs ds)) ∧ Below w.heap.size w w' := by
  have L := hide hr.1
  have R := hide hr
  clear hr
  go_enter Tryz.func30, Tryz.ntmps30
  go_wp2_with fail
  go_loopw [3] (fun i wr => ∃ k : Nat, k ≤ n ∧ i = .int .i64 k ∧ Hid (∀ i, i < k → okAtV ds i = true) ∧ Hid (Below w.heap.size w wr)) (fun i _ => n - (intOf i).toNat)
  case atStart => exact ⟨0, by omega, rfl, (fun i hi => absurd hi (Nat.not_lt_zero _)), Below.refl _ _⟩
  case round =>
    obtain ⟨k, hk, rfl, hok, hb⟩ := hrel
    by_cases hlt : k < n
    · have hk2 : k < ds.length := by rw [unhide L]; exact hlt
      have hkn : (k : Int) < (n : Int) := by omega
      obtain ⟨b, off, rfl, d0, d1, d2, d3⟩ := ((unhide R).below (unhide hb)).2 k hk2
      have hsz := (unhide hb).size
      have ST := hide (fun b => vs_step (b := b) hk2 (unhide hok))
      have E0 := hide (show k = 0 → okAtV ds k = verK ds[k] from fun e => by subst e; exact okAtV_zero hk2)
      have E1 := hide (show ∀ (h : 0 < k), okAtV ds k = (verK ds[k] && ltV (ds[k - 1]'(by omega)) ds[k]) from fun h => by
        obtain ⟨j, rfl⟩ : ∃ j, k = j + 1 := ⟨k - 1, by omega⟩
        exact okAtV_succ hk2)
      have SV := hide (fun (u : World) (hb : Below wr.heap.size wr u) => (l06Right_any ds[k] u).mono fun e u' h => show e = .returned (.bool (verK ds[k])) ∧ Below wr.heap.size wr u' from ⟨h.1, hb.trans (h.2.mono hb.size)⟩)
      have SC0 := hide (fun j (hj : j < ds.length) (u : World) (hb : Below wr.heap.size wr u) => (l06Before_any ds[j] ds[k] u).mono fun e u' h => show e = .returned (.bool (ltV ds[j] ds[k])) ∧ Below wr.heap.size wr u' from ⟨h.1, hb.trans (h.2.mono hb.size)⟩)
      generalize ds[k] = pd at *
      obtain ⟨pk, pt, pv, pg⟩ := pd
      simp only at d0 d1 d2 d3
      unfold vv at SV SC0
      simp only at SV SC0
      clear hok
      have BE := hide (show ∀ u, Below wr.heap.size wr u → Below w.heap.size w u from fun u hb' => (unhide hb).trans (hb'.mono hsz))
      have SK := hide (show ∀ u, Below wr.heap.size wr u → (fun u => Below wr.heap.size wr u ∧ u.cell? ⟨b, off + k * 4, none⟩ = some (.string pk) ∧ u.cell? ⟨b, off + k * 4 + 1, none⟩ = some (.int .i64 pt) ∧ u.cell? ⟨b, off + k * 4 + 2, none⟩ = some (.string pv) ∧ u.cell? ⟨b, off + k * 4 + 3, none⟩ = some (.bool pg)) u from fun u hb =>
        ⟨hb, (hb.cell (p := ⟨b, off + k * 4, none⟩) (cell_lt d0)).trans d0, (hb.cell (p := ⟨b, off + k * 4 + 1, none⟩) (cell_lt d1)).trans d1, (hb.cell (p := ⟨b, off + k * 4 + 2, none⟩) (cell_lt d2)).trans d2, (hb.cell (p := ⟨b, off + k * 4 + 3, none⟩) (cell_lt d3)).trans d3⟩)
      have G0 : Below wr.heap.size wr wr.drew := (Below.refl _ _).drew
      clear d0 d1 d2 d3
      go_upto_region 4 with fail
      generalize hvk : verK ⟨pk, pt, pv, pg⟩ = vk at *
      cases vk
      · have Z := hide (show okVs ds = false by
          have := unhide ST false (by
            by_cases h0 : k = 0
            · exact unhide E0 h0
            · rw [unhide E1 (by omega)]; rfl)
          simpa using this)
        refine wp_region_held_drew (S := (fun u => Below wr.heap.size wr u ∧ u.cell? ⟨b, off + k * 4, none⟩ = some (.string pk) ∧ u.cell? ⟨b, off + k * 4 + 1, none⟩ = some (.int .i64 pt) ∧ u.cell? ⟨b, off + k * 4 + 2, none⟩ = some (.string pv) ∧ u.cell? ⟨b, off + k * 4 + 3, none⟩ = some (.bool pg))) (by kernel_rfl) (unhide SK _ G0) (fun hHeld => ?_)
        refine anyH_take 0 10 (v := ?v1) rfl rfl (by kernel_rfl) (by kernel_rfl) (by kernel_rfl) (fun _ _ _ h => h) (by rfl) ?h1 hHeld ?r1
        case h1 => (intro w hSw; (try dsimp only at hSw); go_simp; try (with_reducible rfl))
        simp only [Act.put, List.setIfInBounds_toArray, List.set_cons_zero, List.set_cons_succ]
        refine anyH_take 1 11 (v := ?v2) rfl rfl (by kernel_rfl) (by kernel_rfl) (by kernel_rfl) (fun _ _ _ h => h) (by rfl) ?h2 hHeld ?r2
        case h2 => (intro w hSw; (try dsimp only at hSw); go_simp; try (with_reducible rfl))
        simp only [Act.put, List.setIfInBounds_toArray, List.set_cons_zero, List.set_cons_succ]
        refine anyH_take 2 12 (v := ?v3) rfl rfl (by kernel_rfl) (by kernel_rfl) (by kernel_rfl) (fun _ _ _ h => h) (by rfl) ?h3 hHeld ?r3
        case h3 => (intro w hSw; (try dsimp only at hSw); go_simp; try (with_reducible rfl))
        simp only [Act.put, List.setIfInBounds_toArray, List.set_cons_zero, List.set_cons_succ]
        refine anyH_take 3 13 (v := ?v4) rfl rfl (by kernel_rfl) (by kernel_rfl) (by kernel_rfl) (fun _ _ _ h => h) (by rfl) ?h4 hHeld ?r4
        case h4 => (intro w hSw; (try dsimp only at hSw); go_simp; try (with_reducible rfl))
        simp only [Act.put, List.setIfInBounds_toArray, List.set_cons_zero, List.set_cons_succ]
        refine wpAnyH_ready (rs := [4]) (by kernel_rfl) (by simp) ?_
        refine AllReadyH.cons rfl (fun K hK => ?_) AllReadyH.nil
        go_simp
        refine (unhide SV _ G0).mono ?_
        rintro e w2 ⟨rfl, b2⟩
        refine hK.out _ _ (unhide SK _ b2) (fun hHeld => ?_)
        clear hK K
        refine anyH_take 5 15 (v := ?v5) rfl rfl (by kernel_rfl) (by kernel_rfl) (by kernel_rfl) (fun _ _ _ h => h) (by rfl) ?h5 hHeld ?r5
        case h5 => (intro w hSw; (try dsimp only at hSw); go_simp; try (with_reducible rfl))
        simp only [Act.put, List.setIfInBounds_toArray, List.set_cons_zero, List.set_cons_succ]
        refine anyH_take 6 16 (v := ?v6) rfl rfl (by kernel_rfl) (by kernel_rfl) (by kernel_rfl) (fun _ _ _ h => h) (by rfl) ?h6 hHeld ?r6
        case h6 => (intro w hSw; (try dsimp only at hSw); go_simp; try (with_reducible rfl))
        simp only [Act.put, List.setIfInBounds_toArray, List.set_cons_zero, List.set_cons_succ]
        refine anyH_skip 7 17 rfl rfl (by kernel_rfl) (by kernel_rfl) (by kernel_rfl) (fun _ _ _ h => h) (by rfl) hHeld ?_
        simp only [Act.put, List.setIfInBounds_toArray, List.set_cons_zero, List.set_cons_succ]
        refine anyH_skip 8 18 rfl rfl (by kernel_rfl) (by kernel_rfl) (by kernel_rfl) (fun _ _ _ h => h) (by rfl) hHeld ?_
        simp only [Act.put, List.setIfInBounds_toArray, List.set_cons_zero, List.set_cons_succ]
        refine anyH_skip 9 19 rfl rfl (by kernel_rfl) (by kernel_rfl) (by kernel_rfl) (fun _ _ _ h => h) (by rfl) hHeld ?_
        simp only [Act.put, List.setIfInBounds_toArray, List.set_cons_zero, List.set_cons_succ]
        refine anyH_skip 10 20 rfl rfl (by kernel_rfl) (by kernel_rfl) (by kernel_rfl) (fun _ _ _ h => h) (by rfl) hHeld ?_
        simp only [Act.put, List.setIfInBounds_toArray, List.set_cons_zero, List.set_cons_succ]
        refine anyH_skip 11 21 rfl rfl (by kernel_rfl) (by kernel_rfl) (by kernel_rfl) (fun _ _ _ h => h) (by rfl) hHeld ?_
        simp only [Act.put, List.setIfInBounds_toArray, List.set_cons_zero, List.set_cons_succ]
        refine anyH_skip 12 22 rfl rfl (by kernel_rfl) (by kernel_rfl) (by kernel_rfl) (fun _ _ _ h => h) (by rfl) hHeld ?_
        simp only [Act.put, List.setIfInBounds_toArray, List.set_cons_zero, List.set_cons_succ]
        refine anyH_skip 13 23 rfl rfl (by kernel_rfl) (by kernel_rfl) (by kernel_rfl) (fun _ _ _ h => h) (by rfl) hHeld ?_
        simp only [Act.put, List.setIfInBounds_toArray, List.set_cons_zero, List.set_cons_succ]
        refine anyH_skip 14 24 rfl rfl (by kernel_rfl) (by kernel_rfl) (by kernel_rfl) (fun _ _ _ h => h) (by rfl) hHeld ?_
        simp only [Act.put, List.setIfInBounds_toArray, List.set_cons_zero, List.set_cons_succ]
        refine anyH_skip 15 25 rfl rfl (by kernel_rfl) (by kernel_rfl) (by kernel_rfl) (fun _ _ _ h => h) (by rfl) hHeld ?_
        simp only [Act.put, List.setIfInBounds_toArray, List.set_cons_zero, List.set_cons_succ]
        refine anyH_skip 16 26 rfl rfl (by kernel_rfl) (by kernel_rfl) (by kernel_rfl) (fun _ _ _ h => h) (by rfl) hHeld ?_
        simp only [Act.put, List.setIfInBounds_toArray, List.set_cons_zero, List.set_cons_succ]
        refine anyH_skip 17 27 rfl rfl (by kernel_rfl) (by kernel_rfl) (by kernel_rfl) (fun _ _ _ h => h) (by rfl) hHeld ?_
        simp only [Act.put, List.setIfInBounds_toArray, List.set_cons_zero, List.set_cons_succ]
        refine anyH_skip 18 28 rfl rfl (by kernel_rfl) (by kernel_rfl) (by kernel_rfl) (fun _ _ _ h => h) (by rfl) hHeld ?_
        simp only [Act.put, List.setIfInBounds_toArray, List.set_cons_zero, List.set_cons_succ]
        refine anyH_skip 19 29 rfl rfl (by kernel_rfl) (by kernel_rfl) (by kernel_rfl) (fun _ _ _ h => h) (by rfl) hHeld ?_
        simp only [Act.put, List.setIfInBounds_toArray, List.set_cons_zero, List.set_cons_succ]
        refine anyH_skip 20 30 rfl rfl (by kernel_rfl) (by kernel_rfl) (by kernel_rfl) (fun _ _ _ h => h) (by rfl) hHeld ?_
        simp only [Act.put, List.setIfInBounds_toArray, List.set_cons_zero, List.set_cons_succ]
        refine anyH_skip 21 31 rfl rfl (by kernel_rfl) (by kernel_rfl) (by kernel_rfl) (fun _ _ _ h => h) (by rfl) hHeld ?_
        simp only [Act.put, List.setIfInBounds_toArray, List.set_cons_zero, List.set_cons_succ]
        refine anyH_take 22 32 (v := ?v7) rfl rfl (by kernel_rfl) (by kernel_rfl) (by kernel_rfl) (fun _ _ _ h => h) (by rfl) ?h7 hHeld ?r7
        case h7 => (intro w hSw; (try dsimp only at hSw); go_simp; try (with_reducible rfl))
        simp only [Act.put, List.setIfInBounds_toArray, List.set_cons_zero, List.set_cons_succ]
        refine wpAnyH_done (by kernel_rfl) ?_ _
        have BF := unhide BE _ b2
        go_wp2_with fail
        go_ret
        exact ⟨ret_bool (unhide Z).symm, BF⟩
      · by_cases hk0 : k = 0
        · have Z := hide (show ∀ i, i < k + 1 → okAtV ds i = true by
            have := unhide ST true (unhide E0 hk0)
            simpa using this)
          have hg : decide ((0 : Int) < (k : Int)) = false := decide_eq_false (by omega)
          have hg1 : decide (0 < k) = false := decide_eq_false (by omega)
          clear hk0
          refine wp_region_held_drew (S := (fun u => Below wr.heap.size wr u ∧ u.cell? ⟨b, off + k * 4, none⟩ = some (.string pk) ∧ u.cell? ⟨b, off + k * 4 + 1, none⟩ = some (.int .i64 pt) ∧ u.cell? ⟨b, off + k * 4 + 2, none⟩ = some (.string pv) ∧ u.cell? ⟨b, off + k * 4 + 3, none⟩ = some (.bool pg))) (by kernel_rfl) (unhide SK _ G0) (fun hHeld => ?_)
          refine anyH_take 0 10 (v := ?v8) rfl rfl (by kernel_rfl) (by kernel_rfl) (by kernel_rfl) (fun _ _ _ h => h) (by rfl) ?h8 hHeld ?r8
          case h8 => (intro w hSw; (try dsimp only at hSw); go_simp; try (with_reducible rfl))
          simp only [Act.put, List.setIfInBounds_toArray, List.set_cons_zero, List.set_cons_succ]
          refine anyH_take 1 11 (v := ?v9) rfl rfl (by kernel_rfl) (by kernel_rfl) (by kernel_rfl) (fun _ _ _ h => h) (by rfl) ?h9 hHeld ?r9
          case h9 => (intro w hSw; (try dsimp only at hSw); go_simp; try (with_reducible rfl))
          simp only [Act.put, List.setIfInBounds_toArray, List.set_cons_zero, List.set_cons_succ]
          refine anyH_take 2 12 (v := ?v10) rfl rfl (by kernel_rfl) (by kernel_rfl) (by kernel_rfl) (fun _ _ _ h => h) (by rfl) ?h10 hHeld ?r10
          case h10 => (intro w hSw; (try dsimp only at hSw); go_simp; try (with_reducible rfl))
          simp only [Act.put, List.setIfInBounds_toArray, List.set_cons_zero, List.set_cons_succ]
          refine anyH_take 3 13 (v := ?v11) rfl rfl (by kernel_rfl) (by kernel_rfl) (by kernel_rfl) (fun _ _ _ h => h) (by rfl) ?h11 hHeld ?r11
          case h11 => (intro w hSw; (try dsimp only at hSw); go_simp; try (with_reducible rfl))
          simp only [Act.put, List.setIfInBounds_toArray, List.set_cons_zero, List.set_cons_succ]
          refine wpAnyH_ready (rs := [4]) (by kernel_rfl) (by simp) ?_
          refine AllReadyH.cons rfl (fun K hK => ?_) AllReadyH.nil
          go_simp
          refine (unhide SV _ G0).mono ?_
          rintro e w2 ⟨rfl, b2⟩
          refine hK.out _ _ (unhide SK _ b2) (fun hHeld => ?_)
          clear hK K
          refine anyH_take 5 15 (v := ?v12) rfl rfl (by kernel_rfl) (by kernel_rfl) (by kernel_rfl) (fun _ _ _ h => h) (by rfl) ?h12 hHeld ?r12
          case h12 => (intro w hSw; (try dsimp only at hSw); go_simp; try (with_reducible rfl))
          simp only [Act.put, List.setIfInBounds_toArray, List.set_cons_zero, List.set_cons_succ]
          refine anyH_take 6 16 (v := ?v13) rfl rfl (by kernel_rfl) (by kernel_rfl) (by kernel_rfl) (fun _ _ _ h => h) (by rfl) ?h13 hHeld ?r13
          case h13 => (intro w hSw; (try dsimp only at hSw); go_simp; try (with_reducible rfl))
          simp only [Act.put, List.setIfInBounds_toArray, List.set_cons_zero, List.set_cons_succ]
          refine anyH_take 7 17 (v := ?v14) rfl rfl (by kernel_rfl) (by kernel_rfl) (by kernel_rfl) (fun _ _ _ h => h) (by rfl) ?h14 hHeld ?r14
          case h14 => (intro w hSw; (try dsimp only at hSw); go_simp; try (with_reducible rfl))
          simp only [Act.put, List.setIfInBounds_toArray, List.set_cons_zero, List.set_cons_succ]
          refine anyH_take 8 18 (v := ?v15) rfl rfl (by kernel_rfl) (by kernel_rfl) (by kernel_rfl) (fun _ _ _ h => h) (by rfl) ?h15 hHeld ?r15
          case h15 => (intro w hSw; (try dsimp only at hSw); go_simp; try (with_reducible rfl))
          simp only [Act.put, List.setIfInBounds_toArray, List.set_cons_zero, List.set_cons_succ]
          refine anyH_take 9 19 (v := ?v16) rfl rfl (by kernel_rfl) (by kernel_rfl) (by kernel_rfl) (fun _ _ _ h => h) (by rfl) ?h16 hHeld ?r16
          case h16 => (intro w hSw; (try dsimp only at hSw); go_simp; try (with_reducible rfl))
          simp only [Act.put, List.setIfInBounds_toArray, List.set_cons_zero, List.set_cons_succ]
          refine anyH_skip 10 20 rfl rfl (by kernel_rfl) (by kernel_rfl) (by kernel_rfl) (fun _ _ _ h => h) (by rfl) hHeld ?_
          simp only [Act.put, List.setIfInBounds_toArray, List.set_cons_zero, List.set_cons_succ]
          refine anyH_skip 11 21 rfl rfl (by kernel_rfl) (by kernel_rfl) (by kernel_rfl) (fun _ _ _ h => h) (by rfl) hHeld ?_
          simp only [Act.put, List.setIfInBounds_toArray, List.set_cons_zero, List.set_cons_succ]
          refine anyH_skip 12 22 rfl rfl (by kernel_rfl) (by kernel_rfl) (by kernel_rfl) (fun _ _ _ h => h) (by rfl) hHeld ?_
          simp only [Act.put, List.setIfInBounds_toArray, List.set_cons_zero, List.set_cons_succ]
          refine anyH_skip 13 23 rfl rfl (by kernel_rfl) (by kernel_rfl) (by kernel_rfl) (fun _ _ _ h => h) (by rfl) hHeld ?_
          simp only [Act.put, List.setIfInBounds_toArray, List.set_cons_zero, List.set_cons_succ]
          refine anyH_skip 14 24 rfl rfl (by kernel_rfl) (by kernel_rfl) (by kernel_rfl) (fun _ _ _ h => h) (by rfl) hHeld ?_
          simp only [Act.put, List.setIfInBounds_toArray, List.set_cons_zero, List.set_cons_succ]
          refine anyH_skip 15 25 rfl rfl (by kernel_rfl) (by kernel_rfl) (by kernel_rfl) (fun _ _ _ h => h) (by rfl) hHeld ?_
          simp only [Act.put, List.setIfInBounds_toArray, List.set_cons_zero, List.set_cons_succ]
          refine anyH_skip 16 26 rfl rfl (by kernel_rfl) (by kernel_rfl) (by kernel_rfl) (fun _ _ _ h => h) (by rfl) hHeld ?_
          simp only [Act.put, List.setIfInBounds_toArray, List.set_cons_zero, List.set_cons_succ]
          refine anyH_skip 17 27 rfl rfl (by kernel_rfl) (by kernel_rfl) (by kernel_rfl) (fun _ _ _ h => h) (by rfl) hHeld ?_
          simp only [Act.put, List.setIfInBounds_toArray, List.set_cons_zero, List.set_cons_succ]
          refine anyH_skip 18 28 rfl rfl (by kernel_rfl) (by kernel_rfl) (by kernel_rfl) (fun _ _ _ h => h) (by rfl) hHeld ?_
          simp only [Act.put, List.setIfInBounds_toArray, List.set_cons_zero, List.set_cons_succ]
          refine anyH_skip 19 29 rfl rfl (by kernel_rfl) (by kernel_rfl) (by kernel_rfl) (fun _ _ _ h => h) (by rfl) hHeld ?_
          simp only [Act.put, List.setIfInBounds_toArray, List.set_cons_zero, List.set_cons_succ]
          refine anyH_skip 20 30 rfl rfl (by kernel_rfl) (by kernel_rfl) (by kernel_rfl) (fun _ _ _ h => h) (by rfl) hHeld ?_
          simp only [Act.put, List.setIfInBounds_toArray, List.set_cons_zero, List.set_cons_succ]
          refine anyH_take 21 31 (v := ?v17) rfl rfl (by kernel_rfl) (by kernel_rfl) (by kernel_rfl) (fun _ _ _ h => h) (by rfl) ?h17 hHeld ?r17
          case h17 => (intro w hSw; (try dsimp only at hSw); go_simp; try (with_reducible rfl))
          simp only [Act.put, List.setIfInBounds_toArray, List.set_cons_zero, List.set_cons_succ]
          refine anyH_take 22 32 (v := ?v18) rfl rfl (by kernel_rfl) (by kernel_rfl) (by kernel_rfl) (fun _ _ _ h => h) (by rfl) ?h18 hHeld ?r18
          case h18 => (intro w hSw; (try dsimp only at hSw); go_simp; try (with_reducible rfl))
          simp only [Act.put, List.setIfInBounds_toArray, List.set_cons_zero, List.set_cons_succ]
          refine wpAnyH_done (by kernel_rfl) ?_ _
          have BF := unhide BE _ b2
          go_wp2_with fail
          go_roundw
          case rel => exact ⟨k + 1, by omega, by go_num, unhide Z, BF⟩
          case measure => simp [intOf]; omega
        · have hj : k - 1 < ds.length := by omega
          have hkp : 0 < k := by omega
          obtain ⟨b', off', e', q0, q1, q2, q3⟩ := ((unhide R).below (unhide hb)).2 (k - 1) hj
          cases e'
          have SC := hide (unhide SC0 (k - 1) hj)
          have E1' := hide (unhide E1 hkp)
          clear SC0 E1 E0
          generalize ds[k - 1] = qd at *
          obtain ⟨qk, qt, qv, qg⟩ := qd
          simp only at q0 q1 q2 q3 SC
          generalize ltV ⟨qk, qt, qv, qg⟩ ⟨pk, pt, pv, pg⟩ = lv at *
          have SK2 := hide (show ∀ u, Below wr.heap.size wr u → (fun u => Below wr.heap.size wr u ∧ u.cell? ⟨b, off + k * 4, none⟩ = some (.string pk) ∧ u.cell? ⟨b, off + k * 4 + 1, none⟩ = some (.int .i64 pt) ∧ u.cell? ⟨b, off + k * 4 + 2, none⟩ = some (.string pv) ∧ u.cell? ⟨b, off + k * 4 + 3, none⟩ = some (.bool pg) ∧ u.cell? ⟨b, off + (k - 1) * 4, none⟩ = some (.string qk) ∧ u.cell? ⟨b, off + (k - 1) * 4 + 1, none⟩ = some (.int .i64 qt) ∧ u.cell? ⟨b, off + (k - 1) * 4 + 2, none⟩ = some (.string qv) ∧ u.cell? ⟨b, off + (k - 1) * 4 + 3, none⟩ = some (.bool qg)) u from fun u hb => by
            obtain ⟨x0, x1, x2, x3, x4⟩ := unhide SK u hb
            exact ⟨x0, x1, x2, x3, x4, (hb.cell (p := ⟨b, off + (k - 1) * 4, none⟩) (cell_lt q0)).trans q0, (hb.cell (p := ⟨b, off + (k - 1) * 4 + 1, none⟩) (cell_lt q1)).trans q1, (hb.cell (p := ⟨b, off + (k - 1) * 4 + 2, none⟩) (cell_lt q2)).trans q2, (hb.cell (p := ⟨b, off + (k - 1) * 4 + 3, none⟩) (cell_lt q3)).trans q3⟩)
          have hi1 : ((k : Int) - 1).toNat = k - 1 := by omega
          have hd1 : decide (0 < k) = true := decide_eq_true hkp
          have hd2 : decide ((0 : Int) < (k : Int)) = true := decide_eq_true (by omega)
          have hi2 : (0 : Int) ≤ (k : Int) - 1 := by omega
          have hi4 : (1 : Int) ≤ (k : Int) := by omega
          have hwr : IntKind.i64.wrap ((k : Int) - 1) = (k : Int) - 1 := by rw [IntKind.wrap_i64]; omega
          have hi3 : (k : Int) - 1 < (n : Int) := by omega
          clear q0 q1 q2 q3
          cases lv
          · have Z := hide (show okVs ds = false by
              have := unhide ST false (by rw [unhide E1']; rfl)
              simpa using this)
            clear E1'
            refine wp_region_held_drew (S := (fun u => Below wr.heap.size wr u ∧ u.cell? ⟨b, off + k * 4, none⟩ = some (.string pk) ∧ u.cell? ⟨b, off + k * 4 + 1, none⟩ = some (.int .i64 pt) ∧ u.cell? ⟨b, off + k * 4 + 2, none⟩ = some (.string pv) ∧ u.cell? ⟨b, off + k * 4 + 3, none⟩ = some (.bool pg) ∧ u.cell? ⟨b, off + (k - 1) * 4, none⟩ = some (.string qk) ∧ u.cell? ⟨b, off + (k - 1) * 4 + 1, none⟩ = some (.int .i64 qt) ∧ u.cell? ⟨b, off + (k - 1) * 4 + 2, none⟩ = some (.string qv) ∧ u.cell? ⟨b, off + (k - 1) * 4 + 3, none⟩ = some (.bool qg))) (by kernel_rfl) (unhide SK2 _ G0) (fun hHeld => ?_)
            refine anyH_take 0 10 (v := ?v19) rfl rfl (by kernel_rfl) (by kernel_rfl) (by kernel_rfl) (fun _ _ _ h => h) (by rfl) ?h19 hHeld ?r19
            case h19 => (intro w hSw; (try dsimp only at hSw); go_simp; try (with_reducible rfl))
            simp only [Act.put, List.setIfInBounds_toArray, List.set_cons_zero, List.set_cons_succ]
            refine anyH_take 1 11 (v := ?v20) rfl rfl (by kernel_rfl) (by kernel_rfl) (by kernel_rfl) (fun _ _ _ h => h) (by rfl) ?h20 hHeld ?r20
            case h20 => (intro w hSw; (try dsimp only at hSw); go_simp; try (with_reducible rfl))
            simp only [Act.put, List.setIfInBounds_toArray, List.set_cons_zero, List.set_cons_succ]
            refine anyH_take 2 12 (v := ?v21) rfl rfl (by kernel_rfl) (by kernel_rfl) (by kernel_rfl) (fun _ _ _ h => h) (by rfl) ?h21 hHeld ?r21
            case h21 => (intro w hSw; (try dsimp only at hSw); go_simp; try (with_reducible rfl))
            simp only [Act.put, List.setIfInBounds_toArray, List.set_cons_zero, List.set_cons_succ]
            refine anyH_take 3 13 (v := ?v22) rfl rfl (by kernel_rfl) (by kernel_rfl) (by kernel_rfl) (fun _ _ _ h => h) (by rfl) ?h22 hHeld ?r22
            case h22 => (intro w hSw; (try dsimp only at hSw); go_simp; try (with_reducible rfl))
            simp only [Act.put, List.setIfInBounds_toArray, List.set_cons_zero, List.set_cons_succ]
            refine wpAnyH_ready (rs := [4]) (by kernel_rfl) (by simp) ?_
            refine AllReadyH.cons rfl (fun K hK => ?_) AllReadyH.nil
            go_simp
            refine (unhide SV _ G0).mono ?_
            rintro e w2 ⟨rfl, b2⟩
            refine hK.out _ _ (unhide SK2 _ b2) (fun hHeld => ?_)
            clear hK K
            refine anyH_take 5 15 (v := ?v23) rfl rfl (by kernel_rfl) (by kernel_rfl) (by kernel_rfl) (fun _ _ _ h => h) (by rfl) ?h23 hHeld ?r23
            case h23 => (intro w hSw; (try dsimp only at hSw); go_simp; try (with_reducible rfl))
            simp only [Act.put, List.setIfInBounds_toArray, List.set_cons_zero, List.set_cons_succ]
            refine anyH_take 6 16 (v := ?v24) rfl rfl (by kernel_rfl) (by kernel_rfl) (by kernel_rfl) (fun _ _ _ h => h) (by rfl) ?h24 hHeld ?r24
            case h24 => (intro w hSw; (try dsimp only at hSw); go_simp; try (with_reducible rfl))
            simp only [Act.put, List.setIfInBounds_toArray, List.set_cons_zero, List.set_cons_succ]
            refine anyH_take 7 17 (v := ?v25) rfl rfl (by kernel_rfl) (by kernel_rfl) (by kernel_rfl) (fun _ _ _ h => h) (by rfl) ?h25 hHeld ?r25
            case h25 => (intro w hSw; (try dsimp only at hSw); go_simp; try (with_reducible rfl))
            simp only [Act.put, List.setIfInBounds_toArray, List.set_cons_zero, List.set_cons_succ]
            refine anyH_take 8 18 (v := ?v26) rfl rfl (by kernel_rfl) (by kernel_rfl) (by kernel_rfl) (fun _ _ _ h => h) (by rfl) ?h26 hHeld ?r26
            case h26 => (intro w hSw; (try dsimp only at hSw); go_simp; try (with_reducible rfl))
            simp only [Act.put, List.setIfInBounds_toArray, List.set_cons_zero, List.set_cons_succ]
            refine anyH_take 9 19 (v := ?v27) rfl rfl (by kernel_rfl) (by kernel_rfl) (by kernel_rfl) (fun _ _ _ h => h) (by rfl) ?h27 hHeld ?r27
            case h27 => (intro w hSw; (try dsimp only at hSw); go_simp; try (with_reducible rfl))
            simp only [Act.put, List.setIfInBounds_toArray, List.set_cons_zero, List.set_cons_succ]
            refine anyH_take 10 20 (v := ?v28) rfl rfl (by kernel_rfl) (by kernel_rfl) (by kernel_rfl) (fun _ _ _ h => h) (by rfl) ?h28 hHeld ?r28
            case h28 => (intro w hSw; (try dsimp only at hSw); go_simp; try (with_reducible rfl))
            simp only [Act.put, List.setIfInBounds_toArray, List.set_cons_zero, List.set_cons_succ]
            refine anyH_take 11 21 (v := ?v29) rfl rfl (by kernel_rfl) (by kernel_rfl) (by kernel_rfl) (fun _ _ _ h => h) (by rfl) ?h29 hHeld ?r29
            case h29 => (intro w hSw; (try dsimp only at hSw); go_simp; try (with_reducible rfl))
            simp only [Act.put, List.setIfInBounds_toArray, List.set_cons_zero, List.set_cons_succ]
            refine anyH_take 12 22 (v := ?v30) rfl rfl (by kernel_rfl) (by kernel_rfl) (by kernel_rfl) (fun _ _ _ h => h) (by rfl) ?h30 hHeld ?r30
            case h30 => (intro w hSw; (try dsimp only at hSw); go_simp; try (with_reducible rfl))
            simp only [Act.put, List.setIfInBounds_toArray, List.set_cons_zero, List.set_cons_succ]
            refine anyH_take 13 23 (v := ?v31) rfl rfl (by kernel_rfl) (by kernel_rfl) (by kernel_rfl) (fun _ _ _ h => h) (by rfl) ?h31 hHeld ?r31
            case h31 => (intro w hSw; (try dsimp only at hSw); go_simp; try (with_reducible rfl))
            simp only [Act.put, List.setIfInBounds_toArray, List.set_cons_zero, List.set_cons_succ]
            refine anyH_take 14 24 (v := ?v32) rfl rfl (by kernel_rfl) (by kernel_rfl) (by kernel_rfl) (fun _ _ _ h => h) (by rfl) ?h32 hHeld ?r32
            case h32 => (intro w hSw; (try dsimp only at hSw); go_simp; try (with_reducible rfl))
            simp only [Act.put, List.setIfInBounds_toArray, List.set_cons_zero, List.set_cons_succ]
            refine anyH_take 15 25 (v := ?v33) rfl rfl (by kernel_rfl) (by kernel_rfl) (by kernel_rfl) (fun _ _ _ h => h) (by rfl) ?h33 hHeld ?r33
            case h33 => (intro w hSw; (try dsimp only at hSw); go_simp; try (with_reducible rfl))
            simp only [Act.put, List.setIfInBounds_toArray, List.set_cons_zero, List.set_cons_succ]
            refine anyH_take 16 26 (v := ?v34) rfl rfl (by kernel_rfl) (by kernel_rfl) (by kernel_rfl) (fun _ _ _ h => h) (by rfl) ?h34 hHeld ?r34
            case h34 => (intro w hSw; (try dsimp only at hSw); go_simp; try (with_reducible rfl))
            simp only [Act.put, List.setIfInBounds_toArray, List.set_cons_zero, List.set_cons_succ]
            refine anyH_take 17 27 (v := ?v35) rfl rfl (by kernel_rfl) (by kernel_rfl) (by kernel_rfl) (fun _ _ _ h => h) (by rfl) ?h35 hHeld ?r35
            case h35 => (intro w hSw; (try dsimp only at hSw); go_simp; try (with_reducible rfl))
            simp only [Act.put, List.setIfInBounds_toArray, List.set_cons_zero, List.set_cons_succ]
            refine anyH_take 18 28 (v := ?v36) rfl rfl (by kernel_rfl) (by kernel_rfl) (by kernel_rfl) (fun _ _ _ h => h) (by rfl) ?h36 hHeld ?r36
            case h36 => (intro w hSw; (try dsimp only at hSw); go_simp; try (with_reducible rfl))
            simp only [Act.put, List.setIfInBounds_toArray, List.set_cons_zero, List.set_cons_succ]
            refine wpAnyH_ready (rs := [19]) (by kernel_rfl) (by simp) ?_
            refine AllReadyH.cons rfl (fun K hK => ?_) AllReadyH.nil
            go_simp
            refine (unhide SC _ b2).mono ?_
            rintro e w3 ⟨rfl, b3⟩
            refine hK.out _ _ (unhide SK2 _ b3) (fun hHeld => ?_)
            clear hK K
            refine anyH_take 20 30 (v := ?v37) rfl rfl (by kernel_rfl) (by kernel_rfl) (by kernel_rfl) (fun _ _ _ h => h) (by rfl) ?h37 hHeld ?r37
            case h37 => (intro w hSw; (try dsimp only at hSw); go_simp; try (with_reducible rfl))
            simp only [Act.put, List.setIfInBounds_toArray, List.set_cons_zero, List.set_cons_succ]
            refine anyH_take 21 31 (v := ?v38) rfl rfl (by kernel_rfl) (by kernel_rfl) (by kernel_rfl) (fun _ _ _ h => h) (by rfl) ?h38 hHeld ?r38
            case h38 => (intro w hSw; (try dsimp only at hSw); go_simp; try (with_reducible rfl))
            simp only [Act.put, List.setIfInBounds_toArray, List.set_cons_zero, List.set_cons_succ]
            refine anyH_take 22 32 (v := ?v39) rfl rfl (by kernel_rfl) (by kernel_rfl) (by kernel_rfl) (fun _ _ _ h => h) (by rfl) ?h39 hHeld ?r39
            case h39 => (intro w hSw; (try dsimp only at hSw); go_simp; try (with_reducible rfl))
            simp only [Act.put, List.setIfInBounds_toArray, List.set_cons_zero, List.set_cons_succ]
            refine wpAnyH_done (by kernel_rfl) ?_ _
            have BF := unhide BE _ b3
            go_wp2_with fail
            go_ret
            exact ⟨ret_bool (unhide Z).symm, BF⟩
          · have Z := hide (show ∀ i, i < k + 1 → okAtV ds i = true by
              have := unhide ST true (by rw [unhide E1']; rfl)
              simpa using this)
            clear E1'
            refine wp_region_held_drew (S := (fun u => Below wr.heap.size wr u ∧ u.cell? ⟨b, off + k * 4, none⟩ = some (.string pk) ∧ u.cell? ⟨b, off + k * 4 + 1, none⟩ = some (.int .i64 pt) ∧ u.cell? ⟨b, off + k * 4 + 2, none⟩ = some (.string pv) ∧ u.cell? ⟨b, off + k * 4 + 3, none⟩ = some (.bool pg) ∧ u.cell? ⟨b, off + (k - 1) * 4, none⟩ = some (.string qk) ∧ u.cell? ⟨b, off + (k - 1) * 4 + 1, none⟩ = some (.int .i64 qt) ∧ u.cell? ⟨b, off + (k - 1) * 4 + 2, none⟩ = some (.string qv) ∧ u.cell? ⟨b, off + (k - 1) * 4 + 3, none⟩ = some (.bool qg))) (by kernel_rfl) (unhide SK2 _ G0) (fun hHeld => ?_)
            refine anyH_take 0 10 (v := ?v40) rfl rfl (by kernel_rfl) (by kernel_rfl) (by kernel_rfl) (fun _ _ _ h => h) (by rfl) ?h40 hHeld ?r40
            case h40 => (intro w hSw; (try dsimp only at hSw); go_simp; try (with_reducible rfl))
            simp only [Act.put, List.setIfInBounds_toArray, List.set_cons_zero, List.set_cons_succ]
            refine anyH_take 1 11 (v := ?v41) rfl rfl (by kernel_rfl) (by kernel_rfl) (by kernel_rfl) (fun _ _ _ h => h) (by rfl) ?h41 hHeld ?r41
            case h41 => (intro w hSw; (try dsimp only at hSw); go_simp; try (with_reducible rfl))
            simp only [Act.put, List.setIfInBounds_toArray, List.set_cons_zero, List.set_cons_succ]
            refine anyH_take 2 12 (v := ?v42) rfl rfl (by kernel_rfl) (by kernel_rfl) (by kernel_rfl) (fun _ _ _ h => h) (by rfl) ?h42 hHeld ?r42
            case h42 => (intro w hSw; (try dsimp only at hSw); go_simp; try (with_reducible rfl))
            simp only [Act.put, List.setIfInBounds_toArray, List.set_cons_zero, List.set_cons_succ]
            refine anyH_take 3 13 (v := ?v43) rfl rfl (by kernel_rfl) (by kernel_rfl) (by kernel_rfl) (fun _ _ _ h => h) (by rfl) ?h43 hHeld ?r43
            case h43 => (intro w hSw; (try dsimp only at hSw); go_simp; try (with_reducible rfl))
            simp only [Act.put, List.setIfInBounds_toArray, List.set_cons_zero, List.set_cons_succ]
            refine wpAnyH_ready (rs := [4]) (by kernel_rfl) (by simp) ?_
            refine AllReadyH.cons rfl (fun K hK => ?_) AllReadyH.nil
            go_simp
            refine (unhide SV _ G0).mono ?_
            rintro e w2 ⟨rfl, b2⟩
            refine hK.out _ _ (unhide SK2 _ b2) (fun hHeld => ?_)
            clear hK K
            refine anyH_take 5 15 (v := ?v44) rfl rfl (by kernel_rfl) (by kernel_rfl) (by kernel_rfl) (fun _ _ _ h => h) (by rfl) ?h44 hHeld ?r44
            case h44 => (intro w hSw; (try dsimp only at hSw); go_simp; try (with_reducible rfl))
            simp only [Act.put, List.setIfInBounds_toArray, List.set_cons_zero, List.set_cons_succ]
            refine anyH_take 6 16 (v := ?v45) rfl rfl (by kernel_rfl) (by kernel_rfl) (by kernel_rfl) (fun _ _ _ h => h) (by rfl) ?h45 hHeld ?r45
            case h45 => (intro w hSw; (try dsimp only at hSw); go_simp; try (with_reducible rfl))
            simp only [Act.put, List.setIfInBounds_toArray, List.set_cons_zero, List.set_cons_succ]
            refine anyH_take 7 17 (v := ?v46) rfl rfl (by kernel_rfl) (by kernel_rfl) (by kernel_rfl) (fun _ _ _ h => h) (by rfl) ?h46 hHeld ?r46
            case h46 => (intro w hSw; (try dsimp only at hSw); go_simp; try (with_reducible rfl))
            simp only [Act.put, List.setIfInBounds_toArray, List.set_cons_zero, List.set_cons_succ]
            refine anyH_take 8 18 (v := ?v47) rfl rfl (by kernel_rfl) (by kernel_rfl) (by kernel_rfl) (fun _ _ _ h => h) (by rfl) ?h47 hHeld ?r47
            case h47 => (intro w hSw; (try dsimp only at hSw); go_simp; try (with_reducible rfl))
            simp only [Act.put, List.setIfInBounds_toArray, List.set_cons_zero, List.set_cons_succ]
            refine anyH_take 9 19 (v := ?v48) rfl rfl (by kernel_rfl) (by kernel_rfl) (by kernel_rfl) (fun _ _ _ h => h) (by rfl) ?h48 hHeld ?r48
            case h48 => (intro w hSw; (try dsimp only at hSw); go_simp; try (with_reducible rfl))
            simp only [Act.put, List.setIfInBounds_toArray, List.set_cons_zero, List.set_cons_succ]
            refine anyH_take 10 20 (v := ?v49) rfl rfl (by kernel_rfl) (by kernel_rfl) (by kernel_rfl) (fun _ _ _ h => h) (by rfl) ?h49 hHeld ?r49
            case h49 => (intro w hSw; (try dsimp only at hSw); go_simp; try (with_reducible rfl))
            simp only [Act.put, List.setIfInBounds_toArray, List.set_cons_zero, List.set_cons_succ]
            refine anyH_take 11 21 (v := ?v50) rfl rfl (by kernel_rfl) (by kernel_rfl) (by kernel_rfl) (fun _ _ _ h => h) (by rfl) ?h50 hHeld ?r50
            case h50 => (intro w hSw; (try dsimp only at hSw); go_simp; try (with_reducible rfl))
            simp only [Act.put, List.setIfInBounds_toArray, List.set_cons_zero, List.set_cons_succ]
            refine anyH_take 12 22 (v := ?v51) rfl rfl (by kernel_rfl) (by kernel_rfl) (by kernel_rfl) (fun _ _ _ h => h) (by rfl) ?h51 hHeld ?r51
            case h51 => (intro w hSw; (try dsimp only at hSw); go_simp; try (with_reducible rfl))
            simp only [Act.put, List.setIfInBounds_toArray, List.set_cons_zero, List.set_cons_succ]
            refine anyH_take 13 23 (v := ?v52) rfl rfl (by kernel_rfl) (by kernel_rfl) (by kernel_rfl) (fun _ _ _ h => h) (by rfl) ?h52 hHeld ?r52
            case h52 => (intro w hSw; (try dsimp only at hSw); go_simp; try (with_reducible rfl))
            simp only [Act.put, List.setIfInBounds_toArray, List.set_cons_zero, List.set_cons_succ]
            refine anyH_take 14 24 (v := ?v53) rfl rfl (by kernel_rfl) (by kernel_rfl) (by kernel_rfl) (fun _ _ _ h => h) (by rfl) ?h53 hHeld ?r53
            case h53 => (intro w hSw; (try dsimp only at hSw); go_simp; try (with_reducible rfl))
            simp only [Act.put, List.setIfInBounds_toArray, List.set_cons_zero, List.set_cons_succ]
            refine anyH_take 15 25 (v := ?v54) rfl rfl (by kernel_rfl) (by kernel_rfl) (by kernel_rfl) (fun _ _ _ h => h) (by rfl) ?h54 hHeld ?r54
            case h54 => (intro w hSw; (try dsimp only at hSw); go_simp; try (with_reducible rfl))
            simp only [Act.put, List.setIfInBounds_toArray, List.set_cons_zero, List.set_cons_succ]
            refine anyH_take 16 26 (v := ?v55) rfl rfl (by kernel_rfl) (by kernel_rfl) (by kernel_rfl) (fun _ _ _ h => h) (by rfl) ?h55 hHeld ?r55
            case h55 => (intro w hSw; (try dsimp only at hSw); go_simp; try (with_reducible rfl))
            simp only [Act.put, List.setIfInBounds_toArray, List.set_cons_zero, List.set_cons_succ]
            refine anyH_take 17 27 (v := ?v56) rfl rfl (by kernel_rfl) (by kernel_rfl) (by kernel_rfl) (fun _ _ _ h => h) (by rfl) ?h56 hHeld ?r56
            case h56 => (intro w hSw; (try dsimp only at hSw); go_simp; try (with_reducible rfl))
            simp only [Act.put, List.setIfInBounds_toArray, List.set_cons_zero, List.set_cons_succ]
            refine anyH_take 18 28 (v := ?v57) rfl rfl (by kernel_rfl) (by kernel_rfl) (by kernel_rfl) (fun _ _ _ h => h) (by rfl) ?h57 hHeld ?r57
            case h57 => (intro w hSw; (try dsimp only at hSw); go_simp; try (with_reducible rfl))
            simp only [Act.put, List.setIfInBounds_toArray, List.set_cons_zero, List.set_cons_succ]
            refine wpAnyH_ready (rs := [19]) (by kernel_rfl) (by simp) ?_
            refine AllReadyH.cons rfl (fun K hK => ?_) AllReadyH.nil
            go_simp
            refine (unhide SC _ b2).mono ?_
            rintro e w3 ⟨rfl, b3⟩
            refine hK.out _ _ (unhide SK2 _ b3) (fun hHeld => ?_)
            clear hK K
            refine anyH_take 20 30 (v := ?v58) rfl rfl (by kernel_rfl) (by kernel_rfl) (by kernel_rfl) (fun _ _ _ h => h) (by rfl) ?h58 hHeld ?r58
            case h58 => (intro w hSw; (try dsimp only at hSw); go_simp; try (with_reducible rfl))
            simp only [Act.put, List.setIfInBounds_toArray, List.set_cons_zero, List.set_cons_succ]
            refine anyH_take 21 31 (v := ?v59) rfl rfl (by kernel_rfl) (by kernel_rfl) (by kernel_rfl) (fun _ _ _ h => h) (by rfl) ?h59 hHeld ?r59
            case h59 => (intro w hSw; (try dsimp only at hSw); go_simp; try (with_reducible rfl))
            simp only [Act.put, List.setIfInBounds_toArray, List.set_cons_zero, List.set_cons_succ]
            refine anyH_take 22 32 (v := ?v60) rfl rfl (by kernel_rfl) (by kernel_rfl) (by kernel_rfl) (fun _ _ _ h => h) (by rfl) ?h60 hHeld ?r60
            case h60 => (intro w hSw; (try dsimp only at hSw); go_simp; try (with_reducible rfl))
            simp only [Act.put, List.setIfInBounds_toArray, List.set_cons_zero, List.set_cons_succ]
            refine wpAnyH_done (by kernel_rfl) ?_ _
            have BF := unhide BE _ b3
            go_wp2_with fail
            go_roundw
            case rel => exact ⟨k + 1, by omega, by go_num, unhide Z, BF⟩
            case measure => simp [intOf]; omega
    · obtain rfl : k = n := by omega
      have Z := hide (show okVs ds = true from okVs_true fun i hi => unhide hok i (by have := unhide L; omega))
      go_wp2_with fail
      go_ret
      exact ⟨ret_bool (unhide Z).symm, unhide hb⟩
end Go.Proofs.YtfajenejngddeaaGreat

namespace Go.Proofs.YtfajenejngddeaaGreat
open Go.RowKit Go.Maps

/-- An append whose run is known. -/
theorem ky_wpApp {P : Program} {ops : Array Oper} {rest : List Oper} {o : Oper} {a : Act} {w : World} {Q : Exit → Act → World → Prop}
    (hg : o.guard = none) (s x : Operand) (t : TypeId) (hop : o.op = Op.call { callee := Callee.builtin Builtin.append, args := #[s, x], argTypes := #[t, t] })
    (vs vx v' : Value) (w' : World) (hs : a.eval s = vs) (hx : a.eval x = vx) (hrun : (Builtin.append_ #[t, t] o.type #[vs, vx]).run P w = .ok v' w') (h : wpList P ops Q rest (a.put o.dst v') w') :
    wpList P ops Q (o :: rest) a w :=
  wpList_plain hg fun _ hK => by
    unfold Oper.wp
    simp [execOp, hop, resolve, invoke, builtin, hs, hx, hrun, Result.andThen]
    exact hK _ _ h
set_option maxRecDepth 100000 in
set_option maxHeartbeats 4000000 in
theorem l06Entries_nn (a : Option Addr) (n c : Nat) (ds : List VerD) (t : Int) (w : World) (hn : n ≤ 1000000) (hr : VRow w a n ds) :
    Calls Tryz.prog 31 #[.slice a n c, .int .i64 t] w fun e w' => ∃ v, e = .returned v ∧ KNn w' w.heap.size v (entsAt ds t) ∧ Below w.heap.size w w' := by
  have LN := hide hr.1
  have R := hide hr
  have H0 := hide (show KNn (w.alloc (.cells #[] 43)) w.heap.size (.slice (some ⟨w.heap.size, 0, none⟩) 0 0) [] from ⟨World.ownsRow_lit _ _ _ (Nat.le_refl _) (by unfold maxLen; simp) rfl, by simp⟩)
  have B0 := hide (show Below w.heap.size w (w.alloc (.cells #[] 43)) from (Below.refl _ _).alloc (Nat.le_refl _) _)
  clear hr
  go_enter Tryz.func31, Tryz.ntmps31
  go_wp2_with fail
  go_loopw [5, 6] (fun o' i wr => ∃ (j : Nat) (o : Value), o' = o ∧ i = .int .i64 (j : Int) ∧ j ≤ n ∧ Hid (KNn wr w.heap.size o (entsTo ds t j)) ∧ Hid (Below w.heap.size w wr)) (fun _ i _ => n - (intOf i).toNat)
  case atStart => exact ⟨0, _, rfl, rfl, Nat.zero_le _, unhide H0, unhide B0⟩
  case round =>
    clear H0 B0
    obtain ⟨j, o, rfl, rfl, hj, hH, hB⟩ := hrel
    have RR := hide ((unhide R).below (unhide hB))
    by_cases hlt : j < n
    · have hj2 : j < ds.length := by rw [unhide LN]; exact hlt
      have EA := hide (fun h1 h2 => ents_again (t := t) hj2 h1 h2)
      have EN := hide (fun h => ents_new (t := t) hj2 h)
      have hel := entsTo_len ds t j
      have AT := hide (fun (k : ByteArray) (u : World) (hb : Below wr.heap.size wr u) => (l06At_any a n c ds k t u (by omega) ((unhide RR).below hb)))
      obtain ⟨b, off, rfl, d0, _, _, _⟩ := (unhide RR).2 j hj2
      have d0' := d0
      generalize hpk : ds[j].k = pk at *
      by_cases h0 : 0 < j ∧ (ds[j - 1]'(by omega)).k = pk
      · obtain ⟨h0, hsame⟩ := h0
        obtain ⟨b1, off1, e1, p0, _, _, _⟩ := (unhide RR).2 (j - 1) (by omega)
        injection e1 with e1
        injection e1 with e1 e2
        subst e1 e2
        rw [hsame] at p0
        have Z := hide (unhide EA h0 hsame)
        have hj1 : ((j : Int) - 1).toNat = j - 1 := by omega
        have hj3 : (0 : Int) ≤ (j : Int) - 1 := by omega
        have hj4 : (j : Int) - 1 < (n : Int) := by omega
        have hwj : IntKind.i64.wrap ((j : Int) - 1) = (j : Int) - 1 := by rw [IntKind.wrap_i64]; omega
        have hg0 : (0 : Int) < (j : Int) := by omega
        clear EA EN AT RR R hsame
        go_wp2_with fail
        go_quiet (fail)
        go_wp2_with fail
        go_roundw
        case rel => exact ⟨j + 1, _, rfl, by go_num, by omega, by rw [unhide Z]; exact unhide hH, bel_drewN (unhide hB) _⟩
        case measure => simp [intOf]; omega
      · have ZN := hide (unhide EN h0)
        clear EA EN
        by_cases hp : 0 < j
        · obtain ⟨b1, off1, e1, p0, _, _, _⟩ := (unhide RR).2 (j - 1) (by omega)
          injection e1 with e1
          injection e1 with e1 e2
          subst e1 e2
          have hne : ¬ (ds[j - 1]'(by omega)).k = pk := fun e => h0 ⟨hp, e⟩
          generalize (ds[j - 1]'(by omega)).k = qk at *
          have hol : (qk.toList == pk.toList) = false := by simpa using fun e => hne (toList_inj e)
          have hj1 : ((j : Int) - 1).toNat = j - 1 := by omega
          have hj3 : (0 : Int) ≤ (j : Int) - 1 := by omega
          have hj4 : (j : Int) - 1 < (n : Int) := by omega
          have hwj : IntKind.i64.wrap ((j : Int) - 1) = (j : Int) - 1 := by rw [IntKind.wrap_i64]; omega
          have hg0 : (0 : Int) < (j : Int) := by omega
          clear RR R h0
          go_wp2_with fail
          go_quiet (fail)
          go_wp2_with fail
          generalize hWD : wr.drewN _ = WD at *
          refine (unhide AT pk WD (by rw [← hWD]; exact bel_drewN (Below.refl _ _) _)).mono ?_
          intro e w2 hv
          rcases hv with ⟨x, rfl, hva, hb2⟩ | ⟨x, rfl, hva, hb2⟩
          · have Z := hide (show entsTo ds t (j + 1) = entsTo ds t j by rw [unhide ZN, hva]; simp [kvOf])
            obtain ⟨xk, xt, xv, xg⟩ := x
            unfold vv
            have hb1 : Below wr.heap.size wr w2 := by rw [← hWD] at hb2; exact rb_bel_of_drewN hb2
            have hb3 := hb1.trans (((Below.refl _ _).alloc (Nat.le_refl _) (.cells #[.string xk, .int .i64 xt, .string xv, .bool xg] 39)).mono hb1.size)
            have HN := hide (show KNn _ _ _ _ from ⟨kowns_below (unhide hH).1 hb3, (unhide hH).2⟩)
            have BN := hide ((unhide hB).trans (hb3.mono (unhide hB).size))
            clear hb1 hb2 hb3 hva ZN AT hH
            go_wp2_with fail
            go_roundw
            case rel => exact ⟨j + 1, _, rfl, by go_num, by omega, by rw [unhide Z]; exact unhide HN, unhide BN⟩
            case measure => simp [intOf]; omega
          · have Z := hide (show entsTo ds t (j + 1) = entsTo ds t j ++ [⟨x.k, x.v⟩] by rw [unhide ZN, hva]; simp [kvOf])
            obtain ⟨xk, xt, xv, xg⟩ := x
            simp only at Z
            unfold vv
            have hb1 : Below wr.heap.size wr w2 := by rw [← hWD] at hb2; exact rb_bel_of_drewN hb2
            have hb3 := hb1.trans (((Below.refl _ _).alloc (Nat.le_refl _) (.cells #[.string xk, .int .i64 xt, .string xv, .bool xg] 39)).mono hb1.size)
            have HN := kowns_below (unhide hH).1 hb3
            have BN := (unhide hB).trans (hb3.mono (unhide hB).size)
            clear hb1 hb2 hb3 hva ZN AT hH
            have KX := heap_alloc_new w2 (.cells #[.string xk, .int .i64 xt, .string xv, .bool xg] 39)
            have x0 : (w2.alloc (.cells #[.string xk, .int .i64 xt, .string xv, .bool xg] 39)).cell? ⟨w2.heap.size, 0, none⟩ = some (.string xk) := (heap_at KX 0).1
            have x2 : (w2.alloc (.cells #[.string xk, .int .i64 xt, .string xv, .bool xg] 39)).cell? ⟨w2.heap.size, 2, none⟩ = some (.string xv) := (heap_at KX 2).1
            clear KX
            go_upto_region 8 with fail
            generalize (w2.alloc (.cells #[.string xk, .int .i64 xt, .string xv, .bool xg] 39)) = W3 at *
            generalize w2.heap.size = bx at *
            obtain ⟨v', w', hr', ho', hg', hn'⟩ := ky_appN (d := ⟨xk, xv⟩) HN (by omega) BN.size
            have BF := hide (((BN.alloc BN.size _)).grown hg' (by have := BN.size; simp; omega) (fun k hk => (HN.lt k hk).1))
            have HF := hide (show KNn w' w.heap.size v' (entsTo ds t (j + 1)) by rw [unhide Z]; exact ⟨ho', hn'⟩)
            clear HN BN Z ho' hg' hn'
            simp only at hr'
            go_wp2_with (at_builtin; refine ky_wpApp rfl (.tmp 44) (.tmp 50) 34 rfl _ _ _ w' rfl rfl hr' ?_)
            go_roundw
            case rel => exact ⟨j + 1, _, rfl, by go_num, by omega, unhide HF, unhide BF⟩
            case measure => simp [intOf]; omega
        · obtain rfl : j = 0 := by omega
          have d00 : wr.cell? ⟨b, off, none⟩ = some (.string pk) := by simpa using d0
          clear RR R h0 hp
          go_wp2_with fail
          go_quiet (fail)
          go_wp2_with fail
          generalize hWD : wr.drewN _ = WD at *
          refine (unhide AT pk WD (by rw [← hWD]; exact bel_drewN (Below.refl _ _) _)).mono ?_
          intro e w2 hv
          rcases hv with ⟨x, rfl, hva, hb2⟩ | ⟨x, rfl, hva, hb2⟩
          · have Z := hide (show entsTo ds t (0 + 1) = entsTo ds t 0 by rw [unhide ZN, hva]; simp [kvOf])
            obtain ⟨xk, xt, xv, xg⟩ := x
            unfold vv
            have hb1 : Below wr.heap.size wr w2 := by rw [← hWD] at hb2; exact rb_bel_of_drewN hb2
            have hb3 := hb1.trans (((Below.refl _ _).alloc (Nat.le_refl _) (.cells #[.string xk, .int .i64 xt, .string xv, .bool xg] 39)).mono hb1.size)
            have HN := hide (show KNn _ _ _ _ from ⟨kowns_below (unhide hH).1 hb3, (unhide hH).2⟩)
            have BN := hide ((unhide hB).trans (hb3.mono (unhide hB).size))
            clear hb1 hb2 hb3 hva ZN AT hH
            go_wp2_with fail
            go_roundw
            case rel => exact ⟨0 + 1, _, rfl, by go_num, by omega, by rw [unhide Z]; exact unhide HN, unhide BN⟩
            case measure => simp [intOf]; omega
          · have Z := hide (show entsTo ds t (0 + 1) = entsTo ds t 0 ++ [⟨x.k, x.v⟩] by rw [unhide ZN, hva]; simp [kvOf])
            obtain ⟨xk, xt, xv, xg⟩ := x
            simp only at Z
            unfold vv
            have hb1 : Below wr.heap.size wr w2 := by rw [← hWD] at hb2; exact rb_bel_of_drewN hb2
            have hb3 := hb1.trans (((Below.refl _ _).alloc (Nat.le_refl _) (.cells #[.string xk, .int .i64 xt, .string xv, .bool xg] 39)).mono hb1.size)
            have HN := kowns_below (unhide hH).1 hb3
            have BN := (unhide hB).trans (hb3.mono (unhide hB).size)
            clear hb1 hb2 hb3 hva ZN AT hH
            have KX := heap_alloc_new w2 (.cells #[.string xk, .int .i64 xt, .string xv, .bool xg] 39)
            have x0 : (w2.alloc (.cells #[.string xk, .int .i64 xt, .string xv, .bool xg] 39)).cell? ⟨w2.heap.size, 0, none⟩ = some (.string xk) := (heap_at KX 0).1
            have x2 : (w2.alloc (.cells #[.string xk, .int .i64 xt, .string xv, .bool xg] 39)).cell? ⟨w2.heap.size, 2, none⟩ = some (.string xv) := (heap_at KX 2).1
            clear KX
            go_upto_region 8 with fail
            generalize (w2.alloc (.cells #[.string xk, .int .i64 xt, .string xv, .bool xg] 39)) = W3 at *
            generalize w2.heap.size = bx at *
            obtain ⟨v', w', hr', ho', hg', hn'⟩ := ky_appN (d := ⟨xk, xv⟩) HN (by omega) BN.size
            have BF := hide (((BN.alloc BN.size _)).grown hg' (by have := BN.size; simp; omega) (fun k hk => (HN.lt k hk).1))
            have HF := hide (show KNn w' w.heap.size v' (entsTo ds t (0 + 1)) by rw [unhide Z]; exact ⟨ho', hn'⟩)
            clear HN BN Z ho' hg' hn'
            simp only at hr'
            go_wp2_with (at_builtin; refine ky_wpApp rfl (.tmp 44) (.tmp 50) 34 rfl _ _ _ w' rfl rfl hr' ?_)
            go_roundw
            case rel => exact ⟨0 + 1, _, rfl, by go_num, by omega, unhide HF, unhide BF⟩
            case measure => simp [intOf]; omega
    · obtain rfl : j = n := by omega
      have Z := hide (show KNn wr w.heap.size u5 (entsAt ds t) by
        have := unhide hH
        rw [← unhide LN] at this
        exact this)
      go_wp2_with fail
      go_ret
      exact ⟨_, rfl, unhide Z, unhide hB⟩
theorem l06Entries_any (a : Option Addr) (n c : Nat) (ds : List VerD) (t : Int) (w : World) (hn : n ≤ 1000000) (hr : VRow w a n ds) :
    Calls Tryz.prog 31 #[.slice a n c, .int .i64 t] w fun e w' => ∃ v, e = .returned v ∧ KOwns w' w.heap.size v (entsAt ds t) ∧ Below w.heap.size w w' :=
  (l06Entries_nn a n c ds t w hn hr).mono fun _ _ ⟨v, h1, h2, h3⟩ => ⟨v, h1, h2.1, h3⟩
end Go.Proofs.YtfajenejngddeaaGreat

namespace Go.Proofs.YtfajenejngddeaaGreat
open Go.RowKit

theorem app_at {P : Program} {w : World} {B : Nat} (t ty e : TypeId) {i : TypeInfo} {z : Value} {size bytes : Nat} (ht : P.underlying t = some (.slice e)) (hi : P.info? e = some i) (hz : i.zero = some z)
    (hsize : i.size = size) (hby : i.bytes = bytes) (hzs : z.cells.size = size) (hsz : 0 < size)
    {v : Value} {n : Nat} {xs : List Value} (hown : w.ownsRow B e size v n xs)
    (a : Addr) (m c : Nat) (news : List Value) (hl : news.length = m * size) (hnews : ∀ j u, news[j]? = some u → w.cell? (a.add j) = some u) (h1 : ∀ u ∈ news, u.oneCell' = true)
    (h63 : n + m ≤ maxLen) (hbytes : (n + m) * bytes ≤ 140737488355328) (hbase : B ≤ w.heap.size) (hm : v = .slice none 0 0 → 0 < m) :
    ∃ v' w', (Builtin.append_ #[t, t] ty #[v, .slice (some a) m c]).run P w = .ok v' w' ∧ w'.ownsRow B e size v' (n + m) (xs ++ news) ∧ w.grownBy w' v.ownBlock ∧ v' ≠ .slice none 0 0 ∧ (v'.ownBlock = v.ownBlock ∨ v'.ownBlock = some w.heap.size) := by
  obtain ⟨v', w', hr, ho', hg, hnil⟩ := run_append_own (P := P) (w := w) B t ty e i z size bytes ht hi hz hsize hby hzs hsz v n xs hown a m c news hl hnews h1 h63 hbytes hbase
  refine ⟨v', w', hr, ho', hg, fun e => by have h1 := hnil.1 e; have := hm h1.1; omega, ?_⟩
  subst hsize
  subst hby
  unfold maxLen at h63
  have hbm : m * i.bytes ≤ (n + m) * i.bytes := Nat.mul_le_mul_right _ (by omega)
  rcases hown.2 with ⟨rfl, h0⟩ | ⟨g', cap', cur, rfl, hbg, hgg, hnc, hcm, hcs, htake⟩
  · have h := run_append_nil (P := P) (w := w) t ty e i z ht hi hz a m c news hl hnews (hm rfl) (by omega) (by omega)
    rw [hr] at h
    injection h with h _
    subst h
    exact .inr rfl
  · by_cases hroom : n + m ≤ cap'
    · have hk : n * i.size + m * i.size ≤ cap' * i.size := by rw [← Nat.add_mul]; exact Nat.mul_le_mul_right _ hroom
      have h := run_append_room (P := P) (w := w) t ty e i ht hi g' n cap' cur hgg a m c news hl hnews h1 hroom (by rw [hcs, hl]; exact hk)
      rw [hr] at h
      injection h with h _
      subst h
      exact .inl rfl
    · have h := run_append_grow (P := P) (w := w) t ty e i z ht hi hz ⟨g', 0, none⟩ n cap' xs hown.1 (fun j u hu => by
          have hj : j < n * i.size := by rw [← hown.1]; exact (List.getElem?_eq_some_iff.1 hu).1
          have e2 : (⟨g', 0, none⟩ : Addr).add j = ⟨g', j, none⟩ := by unfold Addr.add; split <;> simp_all
          rw [e2, hown.cellAt j hj, hu]) a m c news hl hnews (by omega) (by omega) (growslice_fits (by omega) hbytes)
      rw [hr] at h
      injection h with h _
      subst h
      exact .inr rfl
end Go.Proofs.YtfajenejngddeaaGreat

namespace Go.Proofs.YtfajenejngddeaaGreat
open Go.RowKit

/-- What a slice has, appended to a row of the call's own that is not nil. -/
theorem app_src {P : Program} {w : World} {B : Nat} (t ty e : TypeId) {i : TypeInfo} {z : Value} {size bytes : Nat} (ht : P.underlying t = some (.slice e)) (hi : P.info? e = some i) (hz : i.zero = some z)
    (hsize : i.size = size) (hby : i.bytes = bytes) (hzs : z.cells.size = size) (hsz : 0 < size)
    {v : Value} {n : Nat} {xs : List Value} (hown : w.ownsRow B e size v n xs) (hv : v ≠ .slice none 0 0)
    (a : Option Addr) (m c : Nat) (news : List Value) (hl : news.length = m * size) (hnews : ∀ A, a = some A → ∀ j u, news[j]? = some u → w.cell? (A.add j) = some u) (hc : a = none → m = 0 ∧ c = 0) (h1 : ∀ u ∈ news, u.oneCell' = true)
    (h63 : n + m ≤ maxLen) (hbytes : (n + m) * bytes ≤ 140737488355328) (hbase : B ≤ w.heap.size) :
    ∃ v' w', (Builtin.append_ #[t, t] ty #[v, .slice a m c]).run P w = .ok v' w' ∧ w'.ownsRow B e size v' (n + m) (xs ++ news) ∧ w.grownBy w' v.ownBlock ∧ v' ≠ .slice none 0 0 ∧ (v'.ownBlock = v.ownBlock ∨ v'.ownBlock = some w.heap.size) := by
  cases a with
  | none =>
    obtain ⟨rfl, rfl⟩ := hc rfl
    obtain rfl : news = [] := List.eq_nil_of_length_eq_zero (by rw [hl]; simp)
    rw [List.append_nil, Nat.add_zero]
    subst hsize
    exact ⟨v, w, run_append_owned_none (P := P) w B t ty e i i.size ht hi _ _ _ hown, hown, ⟨rfl, rfl, rfl, Nat.le_refl _, fun _ _ _ => rfl⟩, hv, .inl rfl⟩
  | some A => exact app_at t ty e ht hi hz hsize hby hzs hsz hown A m c news hl (hnews A rfl) h1 h63 hbytes hbase (fun h => absurd h hv)
theorem vrow_src {w : World} {A : Addr} {n : Nat} {ds : List VerD} (h : VRow w (some A) n ds) : ∀ t u, (vcs ds)[t]? = some u → w.cell? (A.add t) = some u := by
  intro t u hu
  have hl : t < ds.length * 4 := by
    have := (List.getElem?_eq_some_iff.1 hu).1
    rwa [vcs_len] at this
  obtain ⟨m, r, hr, rfl⟩ : ∃ m r, r < 4 ∧ t = m * 4 + r := ⟨t / 4, t % 4, Nat.mod_lt _ (by omega), by omega⟩
  have hm : m < ds.length := by omega
  obtain ⟨b, off, e, c0, c1, c2, c3⟩ := h.2 m hm
  injection e with e
  subst e
  rw [Addr.add_lit]
  obtain ⟨a0, a1, a2, a3⟩ := vcs_at ds m hm
  match r, hr with
  | 0, _ => rw [Nat.add_zero] at hu ⊢; rw [a0] at hu; rw [c0, ← hu]
  | 1, _ => rw [a1] at hu; rw [← Nat.add_assoc, c1, ← hu]
  | 2, _ => rw [a2] at hu; rw [← Nat.add_assoc, c2, ← hu]
  | 3, _ => rw [a3] at hu; rw [← Nat.add_assoc, c3, ← hu]
theorem frow_src {w : World} {A : Addr} {n : Nat} {ds : List FenD} (h : FRow w (some A) n ds) : ∀ t u, (fcs ds)[t]? = some u → w.cell? (A.add t) = some u := by
  intro t u hu
  have hl : t < ds.length * 3 := by
    have := (List.getElem?_eq_some_iff.1 hu).1
    rwa [fcs_len] at this
  obtain ⟨m, r, hr, rfl⟩ : ∃ m r, r < 3 ∧ t = m * 3 + r := ⟨t / 3, t % 3, Nat.mod_lt _ (by omega), by omega⟩
  have hm : m < ds.length := by omega
  obtain ⟨b, off, e, c0, c1, c2⟩ := h.2 m hm
  injection e with e
  subst e
  rw [Addr.add_lit]
  obtain ⟨a0, a1, a2⟩ := fcs_at ds m hm
  match r, hr with
  | 0, _ => rw [Nat.add_zero] at hu ⊢; rw [a0] at hu; rw [c0, ← hu]
  | 1, _ => rw [a1] at hu; rw [← Nat.add_assoc, c1, ← hu]
  | 2, _ => rw [a2] at hu; rw [← Nat.add_assoc, c2, ← hu]
theorem vrow_none {w : World} {n : Nat} {ds : List VerD} (h : VRow w none n ds) : n = 0 ∧ ds = [] := by
  have h0 : ds.length = 0 := by
    rcases Nat.eq_zero_or_pos ds.length with h' | h'
    · exact h'
    · obtain ⟨_, _, e, _⟩ := h.2 0 h'; cases e
  exact ⟨by have := h.1; omega, List.eq_nil_of_length_eq_zero h0⟩
theorem frow_none {w : World} {n : Nat} {ds : List FenD} (h : FRow w none n ds) : n = 0 ∧ ds = [] := by
  have h0 : ds.length = 0 := by
    rcases Nat.eq_zero_or_pos ds.length with h' | h'
    · exact h'
    · obtain ⟨_, _, e, _⟩ := h.2 0 h'; cases e
  exact ⟨by have := h.1; omega, List.eq_nil_of_length_eq_zero h0⟩
theorem owns_form {w : World} {B e s n : Nat} {v : Value} {cs : List Value} (h : w.ownsRow B e s v n cs) (hv : v ≠ .slice none 0 0) : ∃ g c, v = .slice (some ⟨g, 0, none⟩) n c ∧ B ≤ g ∧ g < w.heap.size ∧ n ≤ c := by
  rcases h.2 with ⟨e, _⟩ | ⟨g, cap, cur, e, hb, hh, hc, _⟩
  · exact absurd e hv
  · exact ⟨g, cap, e, hb, (Array.getElem?_eq_some_iff.1 hh).1, hc⟩
/-- A row of versions appended to another of the call's own. -/
theorem v_appS {w : World} {B : Nat} {v : Value} {ds es : List VerD} {a : Option Addr} {m c : Nat} (ty : TypeId) (ho : VOwns w B v ds) (hv : v ≠ .slice none 0 0) (hr : VRow w a m es) (hc : a = none → c = 0) (hz : ds.length + m ≤ 2000000) (hB : B ≤ w.heap.size) :
    ∃ g k w', (Builtin.append_ #[23, 23] ty #[v, .slice a m c]).run Tryz.prog w = .ok (.slice (some ⟨g, 0, none⟩) (ds.length + m) k) w' ∧ VOwns w' B (.slice (some ⟨g, 0, none⟩) (ds.length + m) k) (ds ++ es) ∧ w.grownBy w' v.ownBlock ∧ (some g = v.ownBlock ∨ g = w.heap.size) := by
  obtain ⟨i0, hi0, hz0, hz1, hz2⟩ := info_parts Tryz.infoVersion
  obtain ⟨v', w', hrun, ho', hg, hnil, loc⟩ := app_src (P := Tryz.prog) (w := w) (B := B) 23 ty 39 Tryz.underlying23 hi0 hz0 hz1 hz2 rfl (by decide) ho hv a m c (vcs es) (by rw [vcs_len, hr.1]) (fun A hA => by subst hA; exact vrow_src hr) (fun h => by subst h; exact ⟨(vrow_none hr).1, hc rfl⟩) (vcs_one _) (by unfold maxLen; omega) (by omega) hB
  obtain ⟨g, k, rfl, _⟩ := owns_form ho' hnil
  refine ⟨g, k, w', hrun, ?_, hg, ?_⟩
  · unfold VOwns
    rw [List.length_append, vcs_append, hr.1]
    exact ho'
  · rcases loc with h | h
    · exact .inl h
    · injection h with h
      exact .inr h
/-- A row of fences appended to another of the call's own. -/
theorem f_appS {w : World} {B : Nat} {v : Value} {ds es : List FenD} {a : Option Addr} {m c : Nat} (ty : TypeId) (ho : FOwns w B v ds) (hv : v ≠ .slice none 0 0) (hr : FRow w a m es) (hc : a = none → c = 0) (hz : ds.length + m ≤ 2000000) (hB : B ≤ w.heap.size) :
    ∃ g k w', (Builtin.append_ #[24, 24] ty #[v, .slice a m c]).run Tryz.prog w = .ok (.slice (some ⟨g, 0, none⟩) (ds.length + m) k) w' ∧ FOwns w' B (.slice (some ⟨g, 0, none⟩) (ds.length + m) k) (ds ++ es) ∧ w.grownBy w' v.ownBlock ∧ (some g = v.ownBlock ∨ g = w.heap.size) := by
  obtain ⟨i0, hi0, hz0, hz1, hz2⟩ := info_parts Tryz.infoFence
  obtain ⟨v', w', hrun, ho', hg, hnil, loc⟩ := app_src (P := Tryz.prog) (w := w) (B := B) 24 ty 90 Tryz.underlying24 hi0 hz0 hz1 hz2 rfl (by decide) ho hv a m c (fcs es) (by rw [fcs_len, hr.1]) (fun A hA => by subst hA; exact frow_src hr) (fun h => by subst h; exact ⟨(frow_none hr).1, hc rfl⟩) (fcs_one _) (by unfold maxLen; omega) (by omega) hB
  obtain ⟨g, k, rfl, _⟩ := owns_form ho' hnil
  refine ⟨g, k, w', hrun, ?_, hg, ?_⟩
  · unfold FOwns
    rw [List.length_append, fcs_append, hr.1]
    exact ho'
  · rcases loc with h | h
    · exact .inl h
    · injection h with h
      exact .inr h
theorem vrow_one (w : World) (d : VerD) : VRow (w.alloc (.cells #[.string d.k, .int .i64 d.t, .string d.v, .bool d.g] 39)) (some ⟨w.heap.size, 0, none⟩) 1 [d] := by
  refine ⟨rfl, fun i hi => ⟨w.heap.size, 0, rfl, ?_⟩⟩
  obtain rfl : i = 0 := by simpa using hi
  simp
theorem frow_one (w : World) (d : FenD) : FRow (w.alloc (.cells #[.string d.f, .string d.u, .int .i64 d.t] 90)) (some ⟨w.heap.size, 0, none⟩) 1 [d] := by
  refine ⟨rfl, fun i hi => ⟨w.heap.size, 0, rfl, ?_⟩⟩
  obtain rfl : i = 0 := by simpa using hi
  simp
/-- The versions from a place on, as a slice expression gives them. -/
theorem vdrop_src {w : World} {b off n c k : Nat} {ds : List VerD} (hE : VRow w (some ⟨b, off, none⟩) n ds) (hc : n ≤ c) (hk : k ≤ n) : ∃ A : Addr, (if c = k then some (⟨b, off, none⟩ : Addr) else some ⟨b, off + k * 4, none⟩) = some A ∧ VRow w (some A) (n - k) (ds.drop k) := by
  by_cases h : c = k
  · exact ⟨⟨b, off, none⟩, by simp [h], ⟨by rw [List.length_drop, hE.1], fun i hi => by rw [List.length_drop] at hi; have := hE.1; omega⟩⟩
  · refine ⟨⟨b, off + k * 4, none⟩, by simp [h], ⟨by rw [List.length_drop, hE.1], fun i hi => ?_⟩⟩
    rw [List.length_drop] at hi
    obtain ⟨b', off', e, q⟩ := hE.2 (k + i) (by omega)
    injection e with e
    injection e with e1 e2
    subst e1 e2
    refine ⟨_, _, rfl, ?_⟩
    rw [List.getElem_drop, show off + k * 4 + i * 4 = off + (k + i) * 4 by omega]
    exact q
end Go.Proofs.YtfajenejngddeaaGreat

namespace Go.Proofs.YtfajenejngddeaaGreat
open Go.RowKit

theorem insV_parts (ds : List VerD) (x : VerD) {p q : Nat} (hp : posV ds x = p) (hq : q = p + (if hitV ds x = true then 1 else 0)) : insV ds x = (ds.take p ++ [x]) ++ ds.drop q := by
  unfold insV
  rw [hp, hq, List.append_assoc]
  rfl
theorem hit_at {ds : List VerD} {x : VerD} {p : Nat} (hp : posV ds x = p) (h : p < ds.length) : hitV ds x = sameV ds[p] x := by
  subst hp
  unfold hitV
  rw [List.getElem?_eq_getElem h]
theorem hit_end {ds : List VerD} {x : VerD} (h : ds.length ≤ posV ds x) : hitV ds x = false := by
  unfold hitV
  rw [List.getElem?_eq_none h]
theorem boxV (w : World) (x : VerD) : (w.alloc (.cells #[.string x.k, .int .i64 x.t, .string x.v, .bool x.g] 39)).heap[w.heap.size]? = some (.cells #[.string x.k, .int .i64 x.t, .string x.v, .bool x.g] 39 (0, 0)) := heap_alloc_new _ _
def InsRes (ds : List VerD) (x : VerD) (w : World) (e : Ending) (w' : World) : Prop := ∃ g k, e = .returned (.slice (some ⟨g, 0, none⟩) (insV ds x).length k) ∧ VOwns w' w.heap.size (.slice (some ⟨g, 0, none⟩) (insV ds x).length k) (insV ds x) ∧ Below w.heap.size w w'
set_option maxRecDepth 100000 in
set_option maxHeartbeats 8000000 in
theorem l06Insert_any (a : Option Addr) (n c : Nat) (ds : List VerD) (x : VerD) (w : World) (hR : VRow w a n ds) (hn : n ≤ 1000000) (hc : n ≤ c) (hcn : a = none → c = 0) :
    Calls Tryz.prog 60 #[.slice a n c, vv x] w fun e w' => InsRes ds x w e w' := by
  unfold vv
  obtain ⟨W, hW⟩ : ∃ W, W = (w.alloc (.cells #[.string x.k, .int .i64 x.t, .string x.v, .bool x.g] 39)).alloc (.cells #[] 39) := ⟨_, rfl⟩
  have b1 : Below w.heap.size w W := by rw [hW]; exact ((Below.refl _ _).alloc (Nat.le_refl _) _).alloc (by simp) _
  have hz : w.heap.size + 1 < W.heap.size := by rw [hW]; simp
  have kx : W.heap[w.heap.size]? = some (.cells #[.string x.k, .int .i64 x.t, .string x.v, .bool x.g] 39 (0, 0)) := by
    rw [hW]
    exact ((((Below.refl _ _).alloc (Nat.le_refl _) (.cells #[] 39)).block w.heap.size (by simp)).trans (boxV w x))
  have O0 : VOwns W (w.heap.size + 1) (.slice (some ⟨w.heap.size + 1, 0, none⟩) 0 0) [] := by
    have := World.ownsRow_lit (base := w.heap.size + 1) (e := 39) (size := 4) (w.alloc (.cells #[.string x.k, .int .i64 x.t, .string x.v, .bool x.g] 39)) #[] 0 (by simp) (by unfold maxLen; simp) rfl
    simp at this
    rw [hW]
    exact this
  have L := hide hR.1
  have RE := hide hR
  have PL := hide (posV_le ds x)
  have KX := hide kx
  have OH := hide O0
  have BH := hide b1
  clear hR b1 kx O0
  go_enter Tryz.func60, Tryz.ntmps60
  go_wp2_with fail
  rw [← hW]
  clear hW
  go_loopw [5, 6] (fun v i wr => ∃ (j g cap : Nat), v = .slice (some ⟨g, 0, none⟩) j cap ∧ i = .int .i64 (j : Int) ∧ j ≤ posV ds x ∧ Hid (VOwns wr (w.heap.size + 1) (.slice (some ⟨g, 0, none⟩) j cap) (ds.take j)) ∧ Hid (Below (w.heap.size + 1) W wr)) (fun _ i _ => n - (intOf i).toNat)
  case atStart => exact ⟨0, w.heap.size + 1, 0, rfl, rfl, Nat.zero_le _, OH, Below.refl _ _⟩
  case round =>
    clear OH
    obtain ⟨j, g, cap, rfl, rfl, hj, hO, hB⟩ := hrel
    have BW := hide ((unhide BH).trans ((unhide hB).mono (by omega)))
    have kr := ((unhide hB).block w.heap.size (by omega)).trans (unhide KX)
    have x0 := (heap_at kr 0).1
    have x1 := (heap_at kr 1).1
    have x2 := (heap_at kr 2).1
    have x3 := (heap_at kr 3).1
    have hszr : w.heap.size + 1 ≤ wr.heap.size := by have := (unhide hB).size; omega
    by_cases hlt : j < n
    case neg =>
      have hjn : j = n := by have := unhide PL; have := unhide L; omega
      have hpn : posV ds x = n := by have := unhide PL; have := unhide L; omega
      have FN := hide (hit_end (ds := ds) (x := x) (by rw [hpn, unhide L]; exact Nat.le_refl _))
      have IP := hide (insV_parts ds x hpn (q := n) (by rw [unhide FN]; rfl))
      have hpd := hide hpn
      clear hpn
      subst hjn
      have hd1 : decide (j < j) = false := decide_eq_false (by omega)
      have hd2 : decide ((j : Int) < (j : Int)) = false := decide_eq_false (by omega)
      go_wp2_with fail
      go_quiet (fail)
      have OQ := hide (show VOwns (wr.drewN nq) (w.heap.size + 1) (.slice (some ⟨g, 0, none⟩) j cap) (ds.take j) from unhide hO)
      have BQ := hide (bel_drewN (unhide hB) nq)
      have x0q : (wr.drewN nq).cell? ⟨w.heap.size, 0, none⟩ = some (.string x.k) := x0
      have x1q : (wr.drewN nq).cell? ⟨w.heap.size, 1, none⟩ = some (.int .i64 x.t) := x1
      have x2q : (wr.drewN nq).cell? ⟨w.heap.size, 2, none⟩ = some (.string x.v) := x2
      have x3q : (wr.drewN nq).cell? ⟨w.heap.size, 3, none⟩ = some (.bool x.g) := x3
      have hszq : w.heap.size + 1 ≤ (wr.drewN nq).heap.size := hszr
      clear hO hB BW kr x0 x1 x2 x3 hszr
      generalize wr.drewN nq = wq at *
      have OA := World.ownsRow.alloc (unhide OQ) (.cells #[.string x.k, .int .i64 x.t, .string x.v, .bool x.g] 39)
      have hr1 := vrow_one wq x
      have bA : Below wq.heap.size wq (wq.alloc (.cells #[.string x.k, .int .i64 x.t, .string x.v, .bool x.g] 39)) := (Below.refl _ _).alloc (Nat.le_refl _) _
      have HTL := hide (show (ds.take j).length = j by have := unhide L; rw [List.length_take]; omega)
      obtain ⟨g3, k3, w3, hr, ho, hg, -⟩ := v_appS 23 (show VOwns _ (w.heap.size + 1) (.slice (some ⟨g, 0, none⟩) j cap) (ds.take j) from OA) (by simp) hr1 (fun h => by cases h) (c := 1) (by rw [unhide HTL]; omega) (Nat.le_trans hszq bA.size)
      rw [unhide HTL] at hr
      have ho : VOwns w3 (w.heap.size + 1) (.slice (some ⟨g3, 0, none⟩) (j + 1) k3) (ds.take j ++ [x]) := by have h := ho; rw [unhide HTL] at h; exact h
      have B3 := hide (((unhide BQ).trans (bA.mono hszq)).grown hg (Nat.le_trans (by omega) (Nat.le_trans hszq bA.size)) (fun k hk => (OA.lt k hk).1))
      have O3 := hide ho
      clear OA hr1 bA hg ho
      go_wp2_with (at_builtin; refine ky_wpApp rfl (.tmp 29) (.tmp 31) 23 rfl _ _ _ w3 rfl rfl hr ?_)
      clear hr
      clear x0q x1q x2q x3q
      cases a with
      | none =>
        obtain rfl := hcn rfl
        have hj0 : j = 0 := by omega
        have SRC := hide (show ∀ u, VRow u none 0 (ds.drop j) by
          obtain ⟨h1, h2⟩ := vrow_none (unhide RE)
          rw [h2]
          exact fun u => ⟨by simp, fun i hi => by simp at hi⟩)
        subst hj0
        go_wp2_with fail
        go_quiet (fail)
        have O5 := unhide O3
        obtain ⟨g6, k6, w6, hr, ho, hg, -⟩ := v_appS 23 (show VOwns (w3.drewN nq) (w.heap.size + 1) (.slice (some ⟨g3, 0, none⟩) (0 + 1) k3) (ds.take 0 ++ [x]) from O5) (by simp) (unhide SRC _) (fun _ => rfl) (c := 0) (by rw [List.length_append, unhide HTL]; simp only [List.length_singleton]; omega) (by have := (unhide B3).size; show w.heap.size + 1 ≤ w3.heap.size; omega)
        have B6 := hide ((unhide BH).trans (((bel_drewN (unhide B3) nq).grown hg (by have := (unhide B3).size; show w.heap.size + 1 ≤ w3.heap.size; omega) (fun k hk => (World.ownsRow.lt (show VOwns (w3.drewN nq) (w.heap.size + 1) (.slice (some ⟨g3, 0, none⟩) (0 + 1) k3) (ds.take 0 ++ [x]) from O5) k hk).1)).mono (by omega)))
        have HLN := hide (show (insV ds x).length = (ds.take 0 ++ [x]).length + 0 by rw [unhide IP, List.length_append, List.length_drop, unhide L])
        have O6 := hide (show VOwns w6 w.heap.size (.slice (some ⟨g6, 0, none⟩) (insV ds x).length k6) (insV ds x) by
          rw [unhide HLN, unhide IP]
          exact ownsRow_base2 ho (Nat.le_succ _))
        have RES := hide (show InsRes ds x w (.returned (.slice (some ⟨g6, 0, none⟩) ((ds.take 0 ++ [x]).length + 0) k6)) w6 from ⟨g6, k6, by rw [unhide HLN], unhide O6, unhide B6⟩)
        have HLT := hide (show (ds.take 0 ++ [x]).length = 0 + 1 by rw [List.length_append, unhide HTL]; rfl)
        rw [unhide HLT] at hr RES
        clear O5 ho hg HLN O6 B6
        go_wp2_with (at_builtin; refine ky_wpApp rfl (.tmp 59) (.tmp 62) 23 rfl _ _ _ w6 rfl rfl hr ?_)
        go_ret
        exact unhide RES
      | some ad =>
        obtain ⟨b, off, spot⟩ := ad
        have hA : ∃ A : Addr, (if c = j then some (⟨b, off, spot⟩ : Addr) else some ((⟨b, off, spot⟩ : Addr).add (j * 4))) = some A ∧ ∀ u, VRow u (some A) 0 (ds.drop j) := by
          have hdr : ds.drop j = [] := List.drop_of_length_le (by rw [unhide L]; exact Nat.le_refl _)
          rw [hdr]
          by_cases h : c = j
          · exact ⟨_, if_pos h, fun u => ⟨rfl, fun i hi => by simp at hi⟩⟩
          · exact ⟨_, if_neg h, fun u => ⟨rfl, fun i hi => by simp at hi⟩⟩
        obtain ⟨A, hA, SRC0⟩ := hA
        have SRC := hide SRC0
        clear SRC0
        go_wp2_with fail
        go_quiet (fail)
        have hd3 : j - j = 0 := Nat.sub_self j
        have O5 := unhide O3
        obtain ⟨g6, k6, w6, hr, ho, hg, -⟩ := v_appS 23 (show VOwns (w3.drewN nq) (w.heap.size + 1) (.slice (some ⟨g3, 0, none⟩) (j + 1) k3) (ds.take j ++ [x]) from O5) (by simp) (unhide SRC _) (fun h => by cases h) (c := (c - j)) (by rw [List.length_append, unhide HTL]; simp only [List.length_singleton]; omega) (by have := (unhide B3).size; show w.heap.size + 1 ≤ w3.heap.size; omega)
        have B6 := hide ((unhide BH).trans (((bel_drewN (unhide B3) nq).grown hg (by have := (unhide B3).size; show w.heap.size + 1 ≤ w3.heap.size; omega) (fun k hk => (World.ownsRow.lt (show VOwns (w3.drewN nq) (w.heap.size + 1) (.slice (some ⟨g3, 0, none⟩) (j + 1) k3) (ds.take j ++ [x]) from O5) k hk).1)).mono (by omega)))
        have HLN := hide (show (insV ds x).length = (ds.take j ++ [x]).length + 0 by rw [unhide IP, List.length_append, List.length_drop, unhide L, Nat.sub_self])
        have O6 := hide (show VOwns w6 w.heap.size (.slice (some ⟨g6, 0, none⟩) (insV ds x).length k6) (insV ds x) by
          rw [unhide HLN, unhide IP]
          exact ownsRow_base2 ho (Nat.le_succ _))
        have RES := hide (show InsRes ds x w (.returned (.slice (some ⟨g6, 0, none⟩) ((ds.take j ++ [x]).length + 0) k6)) w6 from ⟨g6, k6, by rw [unhide HLN], unhide O6, unhide B6⟩)
        have HLT := hide (show (ds.take j ++ [x]).length = j + 1 by rw [List.length_append, unhide HTL]; rfl)
        rw [unhide HLT] at hr RES
        clear O5 ho hg HLN O6 B6
        go_wp2_with (at_builtin; refine ky_wpApp rfl (.tmp 59) (.tmp 62) 23 rfl _ _ _ w6 rfl rfl hr ?_)
        go_ret
        exact unhide RES
    have hj2 : j < ds.length := by rw [unhide L]; exact hlt
    obtain ⟨b, off, rfl, d0, d1, d2, d3⟩ := ((unhide RE).below (unhide BW)).2 j hj2
    have hjn : (j : Int) < (n : Int) := by omega
    have hbl : b < w.heap.size := by obtain ⟨b2, o2, h2, c2, _⟩ := (unhide RE).2 j hj2; injection h2 with h2; injection h2 with h2 _; subst h2; exact cell_lt c2
    have HS := hide (fun h => posV_step (x := x) hj2 hj h)
    have HE := hide (fun h => posV_end (x := x) hj2 hj h)
    have HA := hide (fun h => hit_at (ds := ds) (x := x) (p := j) h hj2)
    have TS := hide (takeG_snoc ds j hj2)
    have SC := hide (fun (u : World) (hb : Below wr.heap.size wr u) => (l06Before_any ds[j] x u).mono fun e u' h => show e = .returned (.bool (ltV ds[j] x)) ∧ Below wr.heap.size wr u' from ⟨h.1, hb.trans (h.2.mono hb.size)⟩)
    generalize hpd : ds[j] = pd at *
    have HPD := hide hpd
    clear hpd
    obtain ⟨pk, pt, pv, pg⟩ := pd
    simp only at d0 d1 d2 d3
    unfold vv at SC
    simp only at SC
    have SK := hide (show ∀ u, Below wr.heap.size wr u → (u.cell? ⟨b, off + j * 4, none⟩ = some (.string pk) ∧ u.cell? ⟨b, off + j * 4 + 1, none⟩ = some (.int .i64 pt) ∧ u.cell? ⟨b, off + j * 4 + 2, none⟩ = some (.string pv) ∧ u.cell? ⟨b, off + j * 4 + 3, none⟩ = some (.bool pg) ∧ u.cell? ⟨w.heap.size, 0, none⟩ = some (.string x.k) ∧ u.cell? ⟨w.heap.size, 1, none⟩ = some (.int .i64 x.t) ∧ u.cell? ⟨w.heap.size, 2, none⟩ = some (.string x.v) ∧ u.cell? ⟨w.heap.size, 3, none⟩ = some (.bool x.g)) from fun u hb =>
      ⟨(hb.cell (p := ⟨b, off + j * 4, none⟩) (cell_lt d0)).trans d0, (hb.cell (p := ⟨b, off + j * 4 + 1, none⟩) (cell_lt d1)).trans d1, (hb.cell (p := ⟨b, off + j * 4 + 2, none⟩) (cell_lt d2)).trans d2, (hb.cell (p := ⟨b, off + j * 4 + 3, none⟩) (cell_lt d3)).trans d3, (hb.cell (p := ⟨w.heap.size, 0, none⟩) (cell_lt x0)).trans x0, (hb.cell (p := ⟨w.heap.size, 1, none⟩) (cell_lt x1)).trans x1, (hb.cell (p := ⟨w.heap.size, 2, none⟩) (cell_lt x2)).trans x2, (hb.cell (p := ⟨w.heap.size, 3, none⟩) (cell_lt x3)).trans x3⟩)
    have G0 : Below wr.heap.size wr wr.drew := (Below.refl _ _).drew
    clear d0 d1 d2 d3 x0 x1 x2 x3 kr
    go_upto_region 3 with fail
    refine wp_region_held_drew (S := (fun u => (u.cell? ⟨b, off + j * 4, none⟩ = some (.string pk) ∧ u.cell? ⟨b, off + j * 4 + 1, none⟩ = some (.int .i64 pt) ∧ u.cell? ⟨b, off + j * 4 + 2, none⟩ = some (.string pv) ∧ u.cell? ⟨b, off + j * 4 + 3, none⟩ = some (.bool pg) ∧ u.cell? ⟨w.heap.size, 0, none⟩ = some (.string x.k) ∧ u.cell? ⟨w.heap.size, 1, none⟩ = some (.int .i64 x.t) ∧ u.cell? ⟨w.heap.size, 2, none⟩ = some (.string x.v) ∧ u.cell? ⟨w.heap.size, 3, none⟩ = some (.bool x.g)))) (by kernel_rfl) (unhide SK _ G0) (fun hHeld => ?_)
    refine anyH_take 0 8 (v := ?v1) rfl rfl (by kernel_rfl) (by kernel_rfl) (by kernel_rfl) (fun _ _ _ h => h) (by rfl) ?h1 hHeld ?r1
    case h1 => (intro w hSw; (try dsimp only at hSw); go_simp; try (with_reducible rfl))
    simp only [Act.put, List.setIfInBounds_toArray, List.set_cons_zero, List.set_cons_succ]
    refine anyH_take 1 9 (v := ?v2) rfl rfl (by kernel_rfl) (by kernel_rfl) (by kernel_rfl) (fun _ _ _ h => h) (by rfl) ?h2 hHeld ?r2
    case h2 => (intro w hSw; (try dsimp only at hSw); go_simp; try (with_reducible rfl))
    simp only [Act.put, List.setIfInBounds_toArray, List.set_cons_zero, List.set_cons_succ]
    refine anyH_take 2 10 (v := ?v3) rfl rfl (by kernel_rfl) (by kernel_rfl) (by kernel_rfl) (fun _ _ _ h => h) (by rfl) ?h3 hHeld ?r3
    case h3 => (intro w hSw; (try dsimp only at hSw); go_simp; try (with_reducible rfl))
    simp only [Act.put, List.setIfInBounds_toArray, List.set_cons_zero, List.set_cons_succ]
    refine anyH_take 3 11 (v := ?v4) rfl rfl (by kernel_rfl) (by kernel_rfl) (by kernel_rfl) (fun _ _ _ h => h) (by rfl) ?h4 hHeld ?r4
    case h4 => (intro w hSw; (try dsimp only at hSw); go_simp; try (with_reducible rfl))
    simp only [Act.put, List.setIfInBounds_toArray, List.set_cons_zero, List.set_cons_succ]
    refine anyH_take 4 12 (v := ?v5) rfl rfl (by kernel_rfl) (by kernel_rfl) (by kernel_rfl) (fun _ _ _ h => h) (by rfl) ?h5 hHeld ?r5
    case h5 => (intro w hSw; (try dsimp only at hSw); go_simp; try (with_reducible rfl))
    simp only [Act.put, List.setIfInBounds_toArray, List.set_cons_zero, List.set_cons_succ]
    refine anyH_take 5 13 (v := ?v6) rfl rfl (by kernel_rfl) (by kernel_rfl) (by kernel_rfl) (fun _ _ _ h => h) (by rfl) ?h6 hHeld ?r6
    case h6 => (intro w hSw; (try dsimp only at hSw); go_simp; try (with_reducible rfl))
    simp only [Act.put, List.setIfInBounds_toArray, List.set_cons_zero, List.set_cons_succ]
    refine anyH_take 6 14 (v := ?v7) rfl rfl (by kernel_rfl) (by kernel_rfl) (by kernel_rfl) (fun _ _ _ h => h) (by rfl) ?h7 hHeld ?r7
    case h7 => (intro w hSw; (try dsimp only at hSw); go_simp; try (with_reducible rfl))
    simp only [Act.put, List.setIfInBounds_toArray, List.set_cons_zero, List.set_cons_succ]
    refine anyH_take 7 15 (v := ?v8) rfl rfl (by kernel_rfl) (by kernel_rfl) (by kernel_rfl) (fun _ _ _ h => h) (by rfl) ?h8 hHeld ?r8
    case h8 => (intro w hSw; (try dsimp only at hSw); go_simp; try (with_reducible rfl))
    simp only [Act.put, List.setIfInBounds_toArray, List.set_cons_zero, List.set_cons_succ]
    refine anyH_take 8 16 (v := ?v9) rfl rfl (by kernel_rfl) (by kernel_rfl) (by kernel_rfl) (fun _ _ _ h => h) (by rfl) ?h9 hHeld ?r9
    case h9 => (intro w hSw; (try dsimp only at hSw); go_simp; try (with_reducible rfl))
    simp only [Act.put, List.setIfInBounds_toArray, List.set_cons_zero, List.set_cons_succ]
    refine anyH_take 9 17 (v := ?v10) rfl rfl (by kernel_rfl) (by kernel_rfl) (by kernel_rfl) (fun _ _ _ h => h) (by rfl) ?h10 hHeld ?r10
    case h10 => (intro w hSw; (try dsimp only at hSw); go_simp; try (with_reducible rfl))
    simp only [Act.put, List.setIfInBounds_toArray, List.set_cons_zero, List.set_cons_succ]
    refine wpAnyH_ready (rs := [10]) (by kernel_rfl) (by simp) ?_
    refine AllReadyH.cons rfl (fun K hK => ?_) AllReadyH.nil
    go_simp
    refine (unhide SC _ G0).mono ?_
    rintro e w2 ⟨rfl, b2⟩
    refine hK.out _ _ (unhide SK _ b2) (fun hHeld => ?_)
    clear hK K
    refine anyH_take 11 19 (v := ?v11) rfl rfl (by kernel_rfl) (by kernel_rfl) (by kernel_rfl) (fun _ _ _ h => h) (by rfl) ?h11 hHeld ?r11
    case h11 => (intro w hSw; (try dsimp only at hSw); go_simp; try (with_reducible rfl))
    simp only [Act.put, List.setIfInBounds_toArray, List.set_cons_zero, List.set_cons_succ]
    refine wpAnyH_done (by kernel_rfl) ?_ _
    clear G0 SC
    obtain ⟨-, -, -, -, x0q, x1q, x2q, x3q⟩ := hHeld
    have BQ := hide ((unhide hB).trans (b2.mono hszr))
    have OQ := hide (rb_ownsRow_below (unhide hO) b2)
    have hszq : w.heap.size + 1 ≤ w2.heap.size := Nat.le_trans hszr b2.size
    clear hB hO BW b2 SK
    generalize hlv : ltV ⟨pk, pt, pv, pg⟩ x = lv at *
    have LV := hide hlv
    clear hlv
    generalize w2 = wq at *
    cases lv with
    | true =>
      clear x0q x1q x2q x3q
      obtain ⟨b', off', he, d0, d1, d2, d3⟩ := ((unhide RE).below ((unhide BH).trans ((unhide BQ).mono (by omega)))).2 j hj2
      injection he with he
      injection he with he1 he2
      subst he1 he2
      rw [unhide HPD] at d0 d1 d2 d3
      simp only at d0 d1 d2 d3
      have OA := World.ownsRow.alloc (unhide OQ) (.cells #[.string pk, .int .i64 pt, .string pv, .bool pg] 39)
      have hr1 := vrow_one wq ⟨pk, pt, pv, pg⟩
      have bA : Below wq.heap.size wq (wq.alloc (.cells #[.string pk, .int .i64 pt, .string pv, .bool pg] 39)) := (Below.refl _ _).alloc (Nat.le_refl _) _
      have HTL := hide (show (ds.take j).length = j by have := unhide L; rw [List.length_take]; omega)
      obtain ⟨g3, k3, w3, hr, ho, hg, -⟩ := v_appS 23 (show VOwns _ (w.heap.size + 1) (.slice (some ⟨g, 0, none⟩) j cap) (ds.take j) from OA) (by simp) hr1 (fun h => by cases h) (c := 1) (by rw [unhide HTL]; omega) (Nat.le_trans hszq bA.size)
      rw [unhide HTL] at hr
      have ho : VOwns w3 (w.heap.size + 1) (.slice (some ⟨g3, 0, none⟩) (j + 1) k3) (ds.take (j + 1)) := by have h := ho; rw [unhide HTL, ← unhide TS] at h; exact h
      have B3 := hide (((unhide BQ).trans (bA.mono hszq)).grown hg (Nat.le_trans (by omega) (Nat.le_trans hszq bA.size)) (fun k hk => (OA.lt k hk).1))
      have O3 := hide ho
      clear OA hr1 bA hg ho
      go_wp2_with (at_builtin; refine ky_wpApp rfl (.tmp 20) (.tmp 25) 23 rfl _ _ _ w3 rfl rfl hr ?_)
      clear hr
      have NX := hide (unhide HS rfl)
      go_wp2_with fail
      go_roundw
      case rel => exact ⟨j + 1, g3, k3, rfl, by go_num, unhide NX, unhide O3, unhide B3⟩
      case measure => simp [intOf]; omega
    | false =>
      have EP := hide (unhide HE rfl).symm
      have HI := hide (unhide HA (unhide EP))
      have OA := World.ownsRow.alloc (unhide OQ) (.cells #[.string x.k, .int .i64 x.t, .string x.v, .bool x.g] 39)
      have hr1 := vrow_one wq x
      have bA : Below wq.heap.size wq (wq.alloc (.cells #[.string x.k, .int .i64 x.t, .string x.v, .bool x.g] 39)) := (Below.refl _ _).alloc (Nat.le_refl _) _
      have HTL := hide (show (ds.take j).length = j by have := unhide L; rw [List.length_take]; omega)
      obtain ⟨g3, k3, w3, hr, ho, hg, -⟩ := v_appS 23 (show VOwns _ (w.heap.size + 1) (.slice (some ⟨g, 0, none⟩) j cap) (ds.take j) from OA) (by simp) hr1 (fun h => by cases h) (c := 1) (by rw [unhide HTL]; omega) (Nat.le_trans hszq bA.size)
      rw [unhide HTL] at hr
      have ho : VOwns w3 (w.heap.size + 1) (.slice (some ⟨g3, 0, none⟩) (j + 1) k3) (ds.take j ++ [x]) := by have h := ho; rw [unhide HTL] at h; exact h
      have B3 := hide (((unhide BQ).trans (bA.mono hszq)).grown hg (Nat.le_trans (by omega) (Nat.le_trans hszq bA.size)) (fun k hk => (OA.lt k hk).1))
      have O3 := hide ho
      clear OA hr1 bA hg ho
      go_wp2_with (at_builtin; refine ky_wpApp rfl (.tmp 29) (.tmp 31) 23 rfl _ _ _ w3 rfl rfl hr ?_)
      clear hr
      obtain ⟨b', off', he, d0, d1, -, -⟩ := ((unhide RE).below ((unhide BH).trans ((unhide B3).mono (by omega)))).2 j hj2
      injection he with he
      injection he with he1 he2
      subst he1 he2
      rw [unhide HPD] at d0 d1
      simp only at d0 d1
      have kr := ((unhide B3).block w.heap.size (by omega)).trans (unhide KX)
      have x0 := (heap_at kr 0).1
      have x1 := (heap_at kr 1).1
      clear kr x0q x1q x2q x3q
      by_cases hke : pk = x.k
      · have hkb : (pk.toList == x.k.toList) = true := by rw [hke]; simp
        by_cases hte : pt = x.t
        · have htb : decide (pt = x.t) = true := decide_eq_true hte
          have htc : (pt == x.t) = true := by simpa using hte
          have IP := hide (insV_parts ds x (unhide EP) (q := j + 1) (by rw [unhide HI]; unfold sameV; rw [htb, decide_eq_true hke]; rfl))
          clear hke hte
          obtain ⟨A, hA, SRC0⟩ := vdrop_src (k := j + 1) ((unhide RE).below ((unhide BH).trans ((unhide B3).mono (by omega)))) hc (by omega)
          have SRC := hide SRC0
          clear SRC0
          go_wp2_with fail
          go_quiet (fail)
          have O5 := unhide O3
          obtain ⟨g6, k6, w6, hr, ho, hg, -⟩ := v_appS 23 (show VOwns (w3.drewN nq) (w.heap.size + 1) (.slice (some ⟨g3, 0, none⟩) (j + 1) k3) (ds.take j ++ [x]) from O5) (by simp) (show VRow (w3.drewN nq) (some A) (n - (j + 1)) (ds.drop (j + 1)) from unhide SRC) (fun h => by cases h) (c := (c - (j + 1))) (by rw [List.length_append, unhide HTL]; simp only [List.length_singleton]; omega) (by have := (unhide B3).size; show w.heap.size + 1 ≤ w3.heap.size; omega)
          have B6 := hide ((unhide BH).trans (((bel_drewN (unhide B3) nq).grown hg (by have := (unhide B3).size; show w.heap.size + 1 ≤ w3.heap.size; omega) (fun k hk => (World.ownsRow.lt (show VOwns (w3.drewN nq) (w.heap.size + 1) (.slice (some ⟨g3, 0, none⟩) (j + 1) k3) (ds.take j ++ [x]) from O5) k hk).1)).mono (by omega)))
          have HLN := hide (show (insV ds x).length = (ds.take j ++ [x]).length + (n - (j + 1)) by rw [unhide IP, List.length_append, List.length_drop, unhide L])
          have O6 := hide (show VOwns w6 w.heap.size (.slice (some ⟨g6, 0, none⟩) (insV ds x).length k6) (insV ds x) by
            rw [unhide HLN, unhide IP]
            exact ownsRow_base2 ho (Nat.le_succ _))
          have RES := hide (show InsRes ds x w (.returned (.slice (some ⟨g6, 0, none⟩) ((ds.take j ++ [x]).length + (n - (j + 1))) k6)) w6 from ⟨g6, k6, by rw [unhide HLN], unhide O6, unhide B6⟩)
          have HLT := hide (show (ds.take j ++ [x]).length = j + 1 by rw [List.length_append, unhide HTL]; rfl)
          rw [unhide HLT] at hr RES
          clear O5 ho hg HLN O6 B6
          go_wp2_with (at_builtin; refine ky_wpApp rfl (.tmp 59) (.tmp 62) 23 rfl _ _ _ w6 rfl rfl hr ?_)
          go_ret
          exact unhide RES
        · have htb : decide (pt = x.t) = false := decide_eq_false hte
          have htc : (pt == x.t) = false := by simpa using hte
          have IP := hide (insV_parts ds x (unhide EP) (q := j) (by rw [unhide HI]; unfold sameV; rw [htb]; simp))
          clear hke
          obtain ⟨A, hA, SRC0⟩ := vdrop_src (k := j) ((unhide RE).below ((unhide BH).trans ((unhide B3).mono (by omega)))) hc (by omega)
          have SRC := hide SRC0
          clear SRC0
          go_wp2_with fail
          go_quiet (fail)
          have O5 := unhide O3
          obtain ⟨g6, k6, w6, hr, ho, hg, -⟩ := v_appS 23 (show VOwns (w3.drewN nq) (w.heap.size + 1) (.slice (some ⟨g3, 0, none⟩) (j + 1) k3) (ds.take j ++ [x]) from O5) (by simp) (show VRow (w3.drewN nq) (some A) (n - (j)) (ds.drop (j)) from unhide SRC) (fun h => by cases h) (c := (c - (j))) (by rw [List.length_append, unhide HTL]; simp only [List.length_singleton]; omega) (by have := (unhide B3).size; show w.heap.size + 1 ≤ w3.heap.size; omega)
          have B6 := hide ((unhide BH).trans (((bel_drewN (unhide B3) nq).grown hg (by have := (unhide B3).size; show w.heap.size + 1 ≤ w3.heap.size; omega) (fun k hk => (World.ownsRow.lt (show VOwns (w3.drewN nq) (w.heap.size + 1) (.slice (some ⟨g3, 0, none⟩) (j + 1) k3) (ds.take j ++ [x]) from O5) k hk).1)).mono (by omega)))
          have HLN := hide (show (insV ds x).length = (ds.take j ++ [x]).length + (n - (j)) by rw [unhide IP, List.length_append, List.length_drop, unhide L])
          have O6 := hide (show VOwns w6 w.heap.size (.slice (some ⟨g6, 0, none⟩) (insV ds x).length k6) (insV ds x) by
            rw [unhide HLN, unhide IP]
            exact ownsRow_base2 ho (Nat.le_succ _))
          have RES := hide (show InsRes ds x w (.returned (.slice (some ⟨g6, 0, none⟩) ((ds.take j ++ [x]).length + (n - (j))) k6)) w6 from ⟨g6, k6, by rw [unhide HLN], unhide O6, unhide B6⟩)
          have HLT := hide (show (ds.take j ++ [x]).length = j + 1 by rw [List.length_append, unhide HTL]; rfl)
          rw [unhide HLT] at hr RES
          clear O5 ho hg HLN O6 B6
          go_wp2_with (at_builtin; refine ky_wpApp rfl (.tmp 59) (.tmp 62) 23 rfl _ _ _ w6 rfl rfl hr ?_)
          go_ret
          exact unhide RES
      · have hkb : (pk.toList == x.k.toList) = false := by simpa using fun e => hke (toList_inj e)
        have IP := hide (insV_parts ds x (unhide EP) (q := j) (by rw [unhide HI]; unfold sameV; rw [decide_eq_false hke]; simp))
        obtain ⟨A, hA, SRC0⟩ := vdrop_src (k := j) ((unhide RE).below ((unhide BH).trans ((unhide B3).mono (by omega)))) hc (by omega)
        have SRC := hide SRC0
        clear SRC0
        go_wp2_with fail
        go_quiet (fail)
        have O5 := unhide O3
        obtain ⟨g6, k6, w6, hr, ho, hg, -⟩ := v_appS 23 (show VOwns (w3.drewN nq) (w.heap.size + 1) (.slice (some ⟨g3, 0, none⟩) (j + 1) k3) (ds.take j ++ [x]) from O5) (by simp) (show VRow (w3.drewN nq) (some A) (n - (j)) (ds.drop (j)) from unhide SRC) (fun h => by cases h) (c := (c - (j))) (by rw [List.length_append, unhide HTL]; simp only [List.length_singleton]; omega) (by have := (unhide B3).size; show w.heap.size + 1 ≤ w3.heap.size; omega)
        have B6 := hide ((unhide BH).trans (((bel_drewN (unhide B3) nq).grown hg (by have := (unhide B3).size; show w.heap.size + 1 ≤ w3.heap.size; omega) (fun k hk => (World.ownsRow.lt (show VOwns (w3.drewN nq) (w.heap.size + 1) (.slice (some ⟨g3, 0, none⟩) (j + 1) k3) (ds.take j ++ [x]) from O5) k hk).1)).mono (by omega)))
        have HLN := hide (show (insV ds x).length = (ds.take j ++ [x]).length + (n - (j)) by rw [unhide IP, List.length_append, List.length_drop, unhide L])
        have O6 := hide (show VOwns w6 w.heap.size (.slice (some ⟨g6, 0, none⟩) (insV ds x).length k6) (insV ds x) by
          rw [unhide HLN, unhide IP]
          exact ownsRow_base2 ho (Nat.le_succ _))
        have RES := hide (show InsRes ds x w (.returned (.slice (some ⟨g6, 0, none⟩) ((ds.take j ++ [x]).length + (n - (j))) k6)) w6 from ⟨g6, k6, by rw [unhide HLN], unhide O6, unhide B6⟩)
        have HLT := hide (show (ds.take j ++ [x]).length = j + 1 by rw [List.length_append, unhide HTL]; rfl)
        rw [unhide HLT] at hr RES
        clear O5 ho hg HLN O6 B6
        go_wp2_with (at_builtin; refine ky_wpApp rfl (.tmp 59) (.tmp 62) 23 rfl _ _ _ w6 rfl rfl hr ?_)
        go_ret
        exact unhide RES
end Go.Proofs.YtfajenejngddeaaGreat

namespace Go.Proofs.YtfajenejngddeaaGreat
open Go.RowKit

end Go.Proofs.YtfajenejngddeaaGreat

namespace Go.Proofs.YtfajenejngddeaaGreat
open Go.RowKit

end Go.Proofs.YtfajenejngddeaaGreat

namespace Go.Proofs.YtfajenejngddeaaGreat
open Go.RowKit

end Go.Proofs.YtfajenejngddeaaGreat

namespace Go.Proofs.YtfajenejngddeaaGreat
open Go.RowKit

end Go.Proofs.YtfajenejngddeaaGreat

namespace Go.Proofs.YtfajenejngddeaaGreat
open Go.RowKit

/-- Blocks of which P does not hold stay. -/
structure WrB (P : Nat → Prop) (w w' : World) : Prop where
  os : w'.os = w.os
  tape : w'.tape = w.tape
  output : w'.output = w.output
  size : w.heap.size ≤ w'.heap.size
  block : ∀ k, k < w.heap.size → ¬ P k → w'.heap[k]? = w.heap[k]?
theorem WrB.of_grown {w w' : World} {r : Option Nat} (h : w.grownBy w' r) : WrB (fun i => r = some i) w w' :=
  ⟨h.os, h.tape, h.output, h.size, fun k hk hp => h.block k hk (fun e => hp e.symm)⟩
theorem WrB.below {P : Nat → Prop} {w w' : World} {B : Nat} (h : WrB P w w') (hB : ∀ i, P i → B ≤ i) (hs : B ≤ w.heap.size) : Below B w w' :=
  ⟨h.os, h.tape, h.output, h.size, fun k hk => h.block k (by omega) (fun hp => by have := hB k hp; omega)⟩
theorem rr_owns_wr {P : Nat → Prop} {w w' : World} {B e s n : Nat} {v : Value} {vs : List Value} (h : w.ownsRow B e s v n vs) (hw : WrB P w w') (hp : ∀ i, v.ownBlock = some i → ¬ P i) : w'.ownsRow B e s v n vs := by
  have hlt := fun i hi => (h.lt i hi).2
  obtain ⟨hl, h⟩ := h
  refine ⟨hl, ?_⟩
  rcases h with h | ⟨g, cap, cur, e, hb, hh, r⟩
  · exact .inl h
  · subst e
    exact .inr ⟨g, cap, cur, rfl, hb, (hw.block g (hlt g rfl) (hp g rfl)).trans hh, r⟩
/-- A row of bytes of one's own. -/
structure BR (w : World) (B : Nat) (a : Option Addr) (n : Nat) (xs : List Int) : Prop where
  row : Row w a n xs
  own : ∀ x, a = some x → B ≤ x.block ∧ x.block < w.heap.size ∧ ∀ j, w.frozen? ⟨x.block, j, none⟩ = false
theorem BR.own' {w : World} {B n : Nat} {a : Option Addr} {xs : List Int} (h : BR w B a n xs) (x : Addr) (hx : a = some x) : B ≤ x.block ∧ x.block < w.heap.size := ⟨(h.own x hx).1, (h.own x hx).2.1⟩
theorem BR.of_blocks {w w' : World} {B n : Nat} {a : Option Addr} {xs : List Int} (h : BR w B a n xs) (hs : w.heap.size ≤ w'.heap.size) (hb : ∀ x, a = some x → w'.heap[x.block]? = w.heap[x.block]?) : BR w' B a n xs :=
  ⟨h.row.of_cells fun x hx p hp => World.cell?_of_block (w := w) (by rw [hp]; exact hb x hx), fun x hx => ⟨(h.own x hx).1, Nat.lt_of_lt_of_le (h.own x hx).2.1 hs, fun j => (show w'.frozen? ⟨x.block, j, none⟩ = w.frozen? ⟨x.block, j, none⟩ from World.frozen?_of_block (w := w) (hb x hx)).trans ((h.own x hx).2.2 j)⟩⟩
theorem BR.below {w w' : World} {B n : Nat} {a : Option Addr} {xs : List Int} (h : BR w B a n xs) (hb : Below w.heap.size w w') : BR w' B a n xs :=
  h.of_blocks hb.size (fun x hx => hb.block _ (h.own x hx).2.1)
theorem BR.wr {P : Nat → Prop} {w w' : World} {B n : Nat} {a : Option Addr} {xs : List Int} (h : BR w B a n xs) (hw : WrB P w w') (hp : ∀ x, a = some x → ¬ P x.block) : BR w' B a n xs :=
  h.of_blocks hw.size (fun x hx => hw.block x.block (h.own x hx).2.1 (hp x hx))
end Go.Proofs.YtfajenejngddeaaGreat

namespace Go.Proofs.YtfajenejngddeaaGreat
open Go.RowKit

/-- A row within a record. -/
structure Sb where
  t : TypeId
  s : Nat
  n : Nat
  v : Value
  cs : List Value
/-- A record: its cells, and the rows within. -/
structure El where
  hd : List Value
  sb : List Sb
theorem fm_at {S : Nat} : ∀ (es : List El), (∀ e ∈ es, e.hd.length = S) → ∀ (i j : Nat) (e : El), es[i]? = some e → j < S → (es.flatMap (·.hd))[i * S + j]? = e.hd[j]?
  | [], _, i, j, e, hi, _ => by simp at hi
  | x :: r, h, 0, j, e, hi, hj => by
    have hx := h x (List.mem_cons_self ..)
    simp at hi
    subst hi
    rw [List.flatMap_cons, List.getElem?_append_left (by omega)]
    simp
  | x :: r, h, i + 1, j, e, hi, hj => by
    have hx := h x (List.mem_cons_self ..)
    have ih := fm_at r (fun y hy => h y (List.mem_cons_of_mem _ hy)) i j e (by simpa using hi) hj
    rw [List.flatMap_cons, List.getElem?_append_right (by rw [hx, Nat.succ_mul]; omega), hx, Nat.succ_mul, show i * S + S + j - S = i * S + j by omega]
    exact ih
theorem fm_set {S : Nat} : ∀ (es : List El), (∀ e ∈ es, e.hd.length = S) → ∀ (i j : Nat) (e : El) (u : Value) (sb : List Sb), es[i]? = some e → j < S → (es.flatMap (·.hd)).set (i * S + j) u = (es.set i ⟨e.hd.set j u, sb⟩).flatMap (·.hd)
  | [], _, i, j, e, u, sb, hi, _ => by simp at hi
  | x :: r, h, 0, j, e, u, sb, hi, hj => by
    have hx := h x (List.mem_cons_self ..)
    simp at hi
    subst hi
    rw [List.set_cons_zero, List.flatMap_cons, List.flatMap_cons, List.set_append_left _ _ (by omega)]
    simp
  | x :: r, h, i + 1, j, e, u, sb, hi, hj => by
    have hx := h x (List.mem_cons_self ..)
    have ih := fm_set r (fun y hy => h y (List.mem_cons_of_mem _ hy)) i j e u sb (by simpa using hi) hj
    rw [List.set_cons_succ, List.flatMap_cons, List.flatMap_cons, List.set_append_right _ _ (by rw [hx, Nat.succ_mul]; omega), hx, Nat.succ_mul, show i * S + S + j - S = i * S + j by omega, ih]
theorem fm_same {S : Nat} : ∀ (es : List El), (∀ e ∈ es, e.hd.length = S) → ∀ (i : Nat) (e : El) (sb : List Sb), es[i]? = some e → (es.set i ⟨e.hd, sb⟩).flatMap (·.hd) = es.flatMap (·.hd)
  | [], _, i, e, sb, hi => by simp at hi
  | x :: r, h, 0, e, sb, hi => by
    simp at hi
    subst hi
    rw [List.set_cons_zero, List.flatMap_cons, List.flatMap_cons]
  | x :: r, h, i + 1, e, sb, hi => by
    have ih := fm_same r (fun y hy => h y (List.mem_cons_of_mem _ hy)) i e sb (by simpa using hi)
    rw [List.set_cons_succ, List.flatMap_cons, List.flatMap_cons, ih]
/-- The row within a record by numbers. -/
def sbAt (es : List El) (i a : Nat) : Option Sb := es[i]?.bind (·.sb[a]?)
theorem sbAt_mem {es : List El} {i a : Nat} {x : Sb} (h : sbAt es i a = some x) : ∃ e ∈ es, x ∈ e.sb := by
  unfold sbAt at h
  cases hi : es[i]? with
  | none => rw [hi] at h; cases h
  | some e =>
    rw [hi] at h
    exact ⟨e, List.mem_of_getElem? hi, List.mem_of_getElem? h⟩
theorem sbAt_of {es : List El} {e : El} {x : Sb} (he : e ∈ es) (hx : x ∈ e.sb) : ∃ i a, sbAt es i a = some x := by
  obtain ⟨i, hi, rfl⟩ := List.getElem_of_mem he
  obtain ⟨a, ha, rfl⟩ := List.getElem_of_mem hx
  exact ⟨i, a, by unfold sbAt; rw [List.getElem?_eq_getElem hi]; simp [ha]⟩
theorem sbAt_set {es : List El} {i k a : Nat} {e : El} (hi : i < es.length) : sbAt (es.set i e) k a = if k = i then e.sb[a]? else sbAt es k a := by
  unfold sbAt
  by_cases h : k = i
  · subst h; rw [if_pos rfl, List.getElem?_set_self hi]; rfl
  · rw [if_neg h, List.getElem?_set_ne (fun e => h e.symm)]
/-- A list of records that the call owns from block B on: no two of its rows share memory. -/
structure NOwn (w : World) (B T S : Nat) (v : Value) (n : Nat) (es : List El) : Prop where
  row : w.ownsRow B T S v n (es.flatMap (·.hd))
  len : es.length = n
  wid : ∀ e ∈ es, e.hd.length = S
  dat : ∀ i a x, sbAt es i a = some x → w.ownsRow B x.t x.s x.v x.n x.cs
  far : ∀ i j a b x y, sbAt es i a = some x → sbAt es j b = some y → (i ≠ j ∨ a ≠ b) → ∀ g, x.v.ownBlock = some g → y.v.ownBlock ≠ some g
  off : ∀ i a x, sbAt es i a = some x → ∀ g, v.ownBlock = some g → x.v.ownBlock ≠ some g
/-- The blocks of a list of records. -/
def NBl (v : Value) (es : List El) (i : Nat) : Prop := v.ownBlock = some i ∨ ∃ k a x, sbAt es k a = some x ∧ x.v.ownBlock = some i
theorem NOwn.lt {w : World} {B T S n : Nat} {v : Value} {es : List El} (h : NOwn w B T S v n es) (i : Nat) (hi : NBl v es i) : B ≤ i ∧ i < w.heap.size := by
  rcases hi with hi | ⟨k, a, x, hx, hi⟩
  · exact h.row.lt i hi
  · exact (h.dat k a x hx).lt i hi
theorem NOwn.wr {P : Nat → Prop} {w w' : World} {B T S n : Nat} {v : Value} {es : List El} (h : NOwn w B T S v n es) (hw : WrB P w w') (hp : ∀ i, NBl v es i → ¬ P i) : NOwn w' B T S v n es :=
  ⟨rr_owns_wr h.row hw (fun i hi => hp i (.inl hi)), h.len, h.wid, fun i a x hx => rr_owns_wr (h.dat i a x hx) hw (fun k hk => hp k (.inr ⟨i, a, x, hx, hk⟩)), h.far, h.off⟩
theorem NOwn.below {w w' : World} {B T S n : Nat} {v : Value} {es : List El} (h : NOwn w B T S v n es) (hb : Below w.heap.size w w') : NOwn w' B T S v n es :=
  ⟨rb_ownsRow_below h.row hb, h.len, h.wid, fun i a x hx => rb_ownsRow_below (h.dat i a x hx) hb, h.far, h.off⟩
theorem gd_base {w : World} {B C e s n : Nat} {v : Value} {vs : List Value} (h : w.ownsRow B e s v n vs) (hc : C ≤ B) : w.ownsRow C e s v n vs := by
  obtain ⟨h1, h2⟩ := h
  refine ⟨h1, ?_⟩
  rcases h2 with h2 | ⟨g, cap, cur, e, hb, r⟩
  · exact .inl h2
  · exact .inr ⟨g, cap, cur, e, Nat.le_trans hc hb, r⟩
theorem gd_set {w : World} {B e s n : Nat} {v : Value} {vs : List Value} {q : Nat} (h : w.ownsRow B e s v n vs) (hq : q < B) (j : Nat) (u : Value) : (w.setCell ⟨q, j, none⟩ u).ownsRow B e s v n vs :=
  ownsRow_heap h (fun g hg => Below.heap_setCell _ _ _ _ (by have := (h.lt g hg).1; show g ≠ q; omega))
theorem NOwn.down {w : World} {B C T S n : Nat} {v : Value} {es : List El} (h : NOwn w B T S v n es) (hc : C ≤ B) : NOwn w C T S v n es :=
  ⟨gd_base h.row hc, h.len, h.wid, fun i a x hx => gd_base (h.dat i a x hx) hc, h.far, h.off⟩
theorem NOwn.cell {w : World} {B T S g n c : Nat} {es : List El} (h : NOwn w B T S (.slice (some ⟨g, 0, none⟩) n c) n es) {i j : Nat} {e : El} {u : Value} (hi : es[i]? = some e) (hu : e.hd[j]? = some u) : w.cell? ⟨g, i * S + j, none⟩ = some u := by
  have hil : i < es.length := (List.getElem?_eq_some_iff.1 hi).1
  have hj : j < S := by have := (List.getElem?_eq_some_iff.1 hu).1; rw [h.wid e (List.mem_of_getElem? hi)] at this; exact this
  have hlt : i * S + j < n * S := by
    rw [← h.len]
    calc i * S + j < i * S + S := by omega
      _ = (i + 1) * S := by rw [Nat.succ_mul]
      _ ≤ es.length * S := Nat.mul_le_mul_right S hil
  rw [h.row.cellAt _ hlt, fm_at es h.wid i j e hi hj, hu]
theorem NOwn.free {w : World} {B T S g n c : Nat} {es : List El} (h : NOwn w B T S (.slice (some ⟨g, 0, none⟩) n c) n es) (j : Nat) : w.frozen? ⟨g, j, none⟩ = false := h.row.frozenAt j
/-- A cell of a record set anew. -/
theorem NOwn.setHd {w : World} {B T S g n c : Nat} {es : List El} (h : NOwn w B T S (.slice (some ⟨g, 0, none⟩) n c) n es) {i j : Nat} {e : El} (hi : es[i]? = some e) (hj : j < S) (u : Value) :
    NOwn (w.setCell ⟨g, i * S + j, none⟩ u) B T S (.slice (some ⟨g, 0, none⟩) n c) n (es.set i ⟨e.hd.set j u, e.sb⟩) ∧ WrB (fun k => k = g) w (w.setCell ⟨g, i * S + j, none⟩ u) := by
  have hil : i < es.length := (List.getElem?_eq_some_iff.1 hi).1
  have hw : WrB (fun k => k = g) w (w.setCell ⟨g, i * S + j, none⟩ u) := ⟨rfl, rfl, rfl, by simp [World.setCell], fun k _ hk => Below.heap_setCell _ _ _ _ hk⟩
  have sb : ∀ k a, sbAt (es.set i ⟨e.hd.set j u, e.sb⟩) k a = sbAt es k a := fun k a => by
    rw [sbAt_set hil]
    by_cases hk : k = i
    · subst hk; rw [if_pos rfl]; unfold sbAt; rw [hi]; rfl
    · rw [if_neg hk]
  refine ⟨⟨?_, by rw [List.length_set]; exact h.len, fun x hx => ?_, fun k a x hx => ?_, fun k l a b x y hx hy => ?_, fun k a x hx => ?_⟩, hw⟩
  · rw [← fm_set es h.wid i j e u e.sb hi hj]
    exact (World.ownsRow.stored h.row (i * S + j) u).1
  · rcases List.mem_or_eq_of_mem_set hx with hx | rfl
    · exact h.wid x hx
    · show (e.hd.set j u).length = S
      rw [List.length_set]
      exact h.wid e (List.mem_of_getElem? hi)
  · rw [sb] at hx
    exact rr_owns_wr (h.dat k a x hx) hw (fun q hq e => h.off k a x hx g rfl (by rw [← e]; exact hq))
  · rw [sb] at hx hy
    exact h.far k l a b x y hx hy
  · rw [sb] at hx
    exact h.off k a x hx
/-- Cells laid one behind the other. -/
def setAll (g : Nat) : World → Nat → List Value → World
  | w, _, [] => w
  | w, o, v :: r => setAll g (w.setCell ⟨g, o, none⟩ v) (o + 1) r
theorem NOwn.store {B T S g n c i : Nat} : ∀ (new old pre : List Value) {w : World} {es : List El} {sb : List Sb}, NOwn w B T S (.slice (some ⟨g, 0, none⟩) n c) n es → es[i]? = some ⟨pre ++ old, sb⟩ → old.length = new.length →
    NOwn (setAll g w (i * S + pre.length) new) B T S (.slice (some ⟨g, 0, none⟩) n c) n (es.set i ⟨pre ++ new, sb⟩)
  | [], old, pre, w, es, sb, h, hi, hl => by
    obtain rfl : old = [] := List.eq_nil_of_length_eq_zero hl
    have hil := (List.getElem?_eq_some_iff.1 hi)
    obtain ⟨hil, he⟩ := hil
    rw [← he, List.set_getElem_self]
    exact h
  | v :: r, [], pre, w, es, sb, h, hi, hl => by simp at hl
  | v :: r, u :: old, pre, w, es, sb, h, hi, hl => by
    have hil := (List.getElem?_eq_some_iff.1 hi).1
    have hw := h.wid _ (List.mem_of_getElem? hi)
    simp only [List.length_append, List.length_cons] at hw
    obtain ⟨h1, _⟩ := h.setHd hi (j := pre.length) (by omega) v
    have e : (pre ++ u :: old).set pre.length v = (pre ++ [v]) ++ old := by rw [List.set_append_right _ _ (Nat.le_refl _), Nat.sub_self, List.set_cons_zero, List.append_assoc, List.singleton_append]
    simp only at h1
    rw [e] at h1
    have h2 := NOwn.store r old (pre ++ [v]) h1 (List.getElem?_set_self hil) (by simpa using hl)
    rw [List.set_set, List.length_append, List.length_singleton, List.append_assoc, List.singleton_append] at h2
    exact h2
/-- New rows come into a record that had none. -/
theorem NOwn.addSb {w w' : World} {B C T S n : Nat} {v : Value} {es : List El} (h : NOwn w B T S v n es) {i : Nat} {e : El} {xs : List Sb} (hi : es[i]? = some e) (hb : Below w.heap.size w w') (hC : w.heap.size ≤ C) (hBC : B ≤ C) (ho : ∀ x ∈ xs, w'.ownsRow C x.t x.s x.v x.n x.cs)
    (hf : ∀ (a b : Nat) (x y : Sb), xs[a]? = some x → xs[b]? = some y → a ≠ b → ∀ g, x.v.ownBlock = some g → y.v.ownBlock ≠ some g) :
    NOwn w' B T S v n (es.set i ⟨e.hd, xs⟩) := by
  have hil : i < es.length := (List.getElem?_eq_some_iff.1 hi).1
  have sb : ∀ k b y, sbAt (es.set i ⟨e.hd, xs⟩) k b = some y → (k = i ∧ xs[b]? = some y) ∨ (k ≠ i ∧ sbAt es k b = some y) := fun k b y hy => by
    rw [sbAt_set hil] at hy
    by_cases hk : k = i
    · subst hk; rw [if_pos rfl] at hy; exact .inl ⟨rfl, hy⟩
    · rw [if_neg hk] at hy; exact .inr ⟨hk, hy⟩
  have lo : ∀ (b : Nat) (y : Sb), xs[b]? = some y → ∀ g, y.v.ownBlock = some g → w.heap.size ≤ g := fun b y hy g hg => Nat.le_trans hC ((ho y (List.mem_of_getElem? hy)).lt g hg).1
  have up : ∀ (k b : Nat) (y : Sb), sbAt es k b = some y → ∀ g, y.v.ownBlock = some g → g < w.heap.size := fun k b y hy g hg => ((h.dat k b y hy).lt g hg).2
  refine ⟨?_, by rw [List.length_set]; exact h.len, fun y hy => ?_, fun k b y hy => ?_, fun k l b d y z hy hz hne => ?_, fun k b y hy => ?_⟩
  · rw [fm_same es h.wid i e _ hi]
    exact rb_ownsRow_below h.row hb
  · rcases List.mem_or_eq_of_mem_set hy with hy | rfl
    · exact h.wid y hy
    · exact h.wid e (List.mem_of_getElem? hi)
  · rcases sb k b y hy with ⟨_, hy⟩ | ⟨_, hy⟩
    · exact gd_base (ho y (List.mem_of_getElem? hy)) hBC
    · exact rb_ownsRow_below (h.dat k b y hy) hb
  · rcases sb k b y hy with ⟨hk, hy⟩ | ⟨hk, hy⟩
    · rcases sb l d z hz with ⟨hl, hz⟩ | ⟨hl, hz⟩
      · exact hf b d y z hy hz (by rcases hne with h | h; exact absurd (hk.trans hl.symm) h; exact h)
      · exact fun g h1 h2 => by have := lo b y hy g h1; have := up l d z hz g h2; omega
    · rcases sb l d z hz with ⟨hl, hz⟩ | ⟨hl, hz⟩
      · exact fun g h1 h2 => by have := up k b y hy g h1; have := lo d z hz g h2; omega
      · exact h.far k l b d y z hy hz hne
  · rcases sb k b y hy with ⟨_, hy⟩ | ⟨_, hy⟩
    · exact fun g h1 h2 => by have := lo b y hy g h2; have := (h.row.lt g h1).2; omega
    · exact h.off k b y hy
/-- A record laid at a place where there was one without rows. -/
theorem NOwn.put {w w' : World} {B C T S g n c i : Nat} {es : List El} {e e' : El} (h : NOwn w B T S (.slice (some ⟨g, 0, none⟩) n c) n es) (hi : es[i]? = some e) (hb : Below w.heap.size w w') (hC : w.heap.size ≤ C) (hBC : B ≤ C) (ho : ∀ x ∈ e'.sb, w'.ownsRow C x.t x.s x.v x.n x.cs)
    (hf : ∀ (a b : Nat) (x y : Sb), e'.sb[a]? = some x → e'.sb[b]? = some y → a ≠ b → ∀ g, x.v.ownBlock = some g → y.v.ownBlock ≠ some g) (hl : e.hd.length = e'.hd.length) :
    NOwn (setAll g w' (i * S) e'.hd) B T S (.slice (some ⟨g, 0, none⟩) n c) n (es.set i e') := by
  have hil := (List.getElem?_eq_some_iff.1 hi).1
  have h1 := h.addSb hi hb hC hBC ho hf
  have h2 := NOwn.store e'.hd e.hd [] h1 (List.getElem?_set_self hil) hl
  rw [List.set_set] at h2
  exact h2
/-- Records without rows. -/
theorem NOwn.flat {w : World} {B T S n : Nat} {v : Value} {es : List El} (h : w.ownsRow B T S v n (es.flatMap (·.hd))) (hl : es.length = n) (hw : ∀ e ∈ es, e.hd.length = S) (hs : ∀ e ∈ es, e.sb = []) : NOwn w B T S v n es := by
  have no : ∀ i a x, sbAt es i a ≠ some x := fun i a x hx => by
    obtain ⟨e, he, hx⟩ := sbAt_mem hx
    rw [hs e he] at hx
    cases hx
  exact ⟨h, hl, hw, fun i a x hx => absurd hx (no i a x), fun i j a b x y hx => absurd hx (no i a x), fun i a x hx => absurd hx (no i a x)⟩
/-- A row as it reads. -/
def RowC (w : World) (v : Value) (n : Nat) (cs : List Value) : Prop := ∃ a c, v = .slice a n c ∧ ∀ j u, cs[j]? = some u → ∃ b off, a = some ⟨b, off, none⟩ ∧ w.cell? ⟨b, off + j, none⟩ = some u
theorem RowC.below {w w' : World} {v : Value} {n : Nat} {cs : List Value} (h : RowC w v n cs) (hb : Below w.heap.size w w') : RowC w' v n cs := by
  obtain ⟨a, c, e, h⟩ := h
  refine ⟨a, c, e, fun j u hu => ?_⟩
  obtain ⟨b, off, e2, h2⟩ := h j u hu
  exact ⟨b, off, e2, (hb.cell (p := ⟨b, off + j, none⟩) (cell_lt h2)).trans h2⟩
theorem rowC_of_owns {w : World} {B t s n : Nat} {v : Value} {cs : List Value} (h : w.ownsRow B t s v n cs) : RowC w v n cs := by
  rcases h.2 with ⟨rfl, rfl⟩ | ⟨g, cap, cur, rfl, _⟩
  · exact ⟨none, 0, rfl, fun j u hu => by have := (List.getElem?_eq_some_iff.1 hu).1; have := h.1; omega⟩
  · exact ⟨_, cap, rfl, fun j u hu => ⟨g, 0, rfl, by rw [Nat.zero_add, h.cellAt j (by rw [← h.1]; exact (List.getElem?_eq_some_iff.1 hu).1), hu]⟩⟩
theorem RowC.at {w : World} {a : Option Addr} {n c j : Nat} {cs : List Value} {u : Value} (h : RowC w (.slice a n c) n cs) (hu : cs[j]? = some u) : ∃ b off, a = some ⟨b, off, none⟩ ∧ w.cell? ⟨b, off + j, none⟩ = some u := by
  obtain ⟨a', c', e, h⟩ := h
  injection e with e _ _
  rw [e]
  exact h j u hu
/-- A list of records as it reads. -/
structure NIn (w : World) (S : Nat) (v : Value) (n : Nat) (es : List El) : Prop where
  row : RowC w v n (es.flatMap (·.hd))
  len : es.length = n
  wid : ∀ e ∈ es, e.hd.length = S
  dat : ∀ e ∈ es, ∀ x ∈ e.sb, RowC w x.v x.n x.cs
theorem NIn.below {w w' : World} {S n : Nat} {v : Value} {es : List El} (h : NIn w S v n es) (hb : Below w.heap.size w w') : NIn w' S v n es :=
  ⟨h.row.below hb, h.len, h.wid, fun e he x hx => (h.dat e he x hx).below hb⟩
theorem NOwn.reads {w : World} {B T S n : Nat} {v : Value} {es : List El} (h : NOwn w B T S v n es) : NIn w S v n es :=
  ⟨rowC_of_owns h.row, h.len, h.wid, fun e he x hx => by
    obtain ⟨i, a, hi⟩ := sbAt_of he hx
    exact rowC_of_owns (h.dat i a x hi)⟩
theorem NIn.cell {w : World} {S n : Nat} {a : Option Addr} {c : Nat} {es : List El} (h : NIn w S (.slice a n c) n es) {i : Nat} {e : El} (hi : es[i]? = some e) (h0 : 0 < S) : ∃ b off, a = some ⟨b, off, none⟩ ∧ b < w.heap.size ∧ ∀ j u, e.hd[j]? = some u → w.cell? ⟨b, off + (i * S + j), none⟩ = some u := by
  obtain ⟨a', c', e', h1⟩ := h.row
  injection e' with e1 _ _
  subst e1
  have hw := h.wid e (List.mem_of_getElem? hi)
  obtain ⟨b, off, rfl, q⟩ := h1 (i * S + 0) (e.hd[0]'(by omega)) (by rw [fm_at es h.wid i 0 e hi h0]; exact List.getElem?_eq_getElem _)
  refine ⟨b, off, rfl, cell_lt q, fun j u hu => ?_⟩
  obtain ⟨b', off', e2, q2⟩ := h1 (i * S + j) u (by rw [fm_at es h.wid i j e hi (by have := (List.getElem?_eq_some_iff.1 hu).1; omega)]; exact hu)
  cases e2
  exact q2
/-! Marks, one behind the other. -/
section
variable {H : Type} (cnt : H → Nat) (mk : Nat → H → H)
end
theorem WrB.seq {P : Nat → Prop} {w1 w2 w3 : World} (h : WrB P w1 w2) (k : WrB P w2 w3) : WrB P w1 w3 :=
  ⟨k.os.trans h.os, k.tape.trans h.tape, k.output.trans h.output, Nat.le_trans h.size k.size, fun i hi hp => (k.block i (Nat.lt_of_lt_of_le hi h.size) hp).trans (h.block i hi hp)⟩
theorem WrB.same (P : Nat → Prop) (w : World) : WrB P w w := ⟨rfl, rfl, rfl, Nat.le_refl _, fun _ _ _ => rfl⟩
theorem WrB.of_below {P : Nat → Prop} {w w' : World} (h : Below w.heap.size w w') : WrB P w w' := ⟨h.os, h.tape, h.output, h.size, fun k hk _ => h.block k hk⟩
end Go.Proofs.YtfajenejngddeaaGreat

namespace Go.Proofs.YtfajenejngddeaaGreat
open Go.RowKit

theorem rowC_lenV {w : World} {a : Option Addr} {n m c : Nat} {cs : List Value} (h : RowC w (.slice a n c) m cs) : n = m := by
  obtain ⟨_, _, e, _⟩ := h
  injection e
theorem vrow_C {w : World} {a : Option Addr} {n c : Nat} {ds : List VerD} (h : RowC w (.slice a n c) ds.length (vcs ds)) : VRow w a n ds := by
  have hn := rowC_lenV h
  subst hn
  refine ⟨rfl, fun i hi => ?_⟩
  obtain ⟨e0, e1, e2, e3⟩ := vcs_at ds i hi
  obtain ⟨b, off, e, q0⟩ := h.at e0
  obtain ⟨b1, o1, f1, q1⟩ := h.at e1
  obtain ⟨b2, o2, f2, q2⟩ := h.at e2
  obtain ⟨b3, o3, f3, q3⟩ := h.at e3
  rw [e] at f1 f2 f3
  cases f1
  cases f2
  cases f3
  exact ⟨b, off, e, q0, by rw [Nat.add_assoc]; exact q1, by rw [Nat.add_assoc]; exact q2, by rw [Nat.add_assoc]; exact q3⟩
end Go.Proofs.YtfajenejngddeaaGreat

namespace Go.Proofs.YtfajenejngddeaaGreat
open Go.RowKit

/-- A record and where its rows lie. -/
structure SeH where
  X : SesD
  s0 : Sl
def seEl (h : SeH) : El := ⟨[.bool h.X.o, .int .i64 h.X.t, .slice h.s0.a h.s0.n h.s0.c], [⟨39, 4, h.X.ws.length, .slice h.s0.a h.s0.n h.s0.c, vcs h.X.ws⟩]⟩
abbrev SeOwn (w : World) (B : Nat) (v : Value) (hs : List SeH) : Prop := NOwn w B 93 3 v hs.length (hs.map seEl)
abbrev SeIn (w : World) (v : Value) (n : Nat) (hs : List SeH) : Prop := NIn w 3 v n (hs.map seEl)
theorem seEl_at {hs : List SeH} {k : Nat} (hk : k < hs.length) : (hs.map seEl)[k]? = some (seEl hs[k]) := by rw [List.getElem?_map, List.getElem?_eq_getElem hk]; rfl
theorem seEl_wid (hs : List SeH) : ∀ e ∈ hs.map seEl, e.hd.length = 3 := by intro e he; obtain ⟨h, _, rfl⟩ := List.mem_map.1 he; rfl
theorem SeIn.sub {w : World} {v : Value} {n : Nat} {hs : List SeH} (h : SeIn w v n hs) {k : Nat} (hk : k < hs.length) : RowC w (.slice hs[k].s0.a hs[k].s0.n hs[k].s0.c) hs[k].X.ws.length (vcs hs[k].X.ws) := by
  have d := h.dat (seEl hs[k]) (List.mem_map_of_mem (List.getElem_mem hk))
  exact d _ (List.Mem.head _)
theorem SeIn.cells {w : World} {a : Option Addr} {n c : Nat} {hs : List SeH} (h : SeIn w (.slice a n c) n hs) {k : Nat} (hk : k < hs.length) : ∃ b off, a = some ⟨b, off, none⟩ ∧ b < w.heap.size ∧ w.cell? ⟨b, off + k * 3, none⟩ = some (.bool hs[k].X.o) ∧ w.cell? ⟨b, off + k * 3 + 1, none⟩ = some (.int .i64 hs[k].X.t) ∧ w.cell? ⟨b, off + k * 3 + 2, none⟩ = some (.slice hs[k].s0.a hs[k].s0.n hs[k].s0.c) := by
  obtain ⟨b, off, e, hb, q⟩ := h.cell (seEl_at hk) (by decide)
  exact ⟨b, off, e, hb, q 0 _ rfl, by rw [Nat.add_assoc]; exact q 1 _ rfl, by rw [Nat.add_assoc]; exact q 2 _ rfl⟩
theorem Tryz.infoSe : (Tryz.prog.info? 93).map (fun i => (i.zero, i.size, i.bytes)) = some (some (.agg #[.bool false, .int .i64 0, .slice none 0 0]), 3, 40) := by kernel_rfl
end Go.Proofs.YtfajenejngddeaaGreat

namespace Go.Proofs.YtfajenejngddeaaGreat
open Go.RowKit

theorem sbAt_snoc {es : List El} {e : El} {i a : Nat} {x : Sb} (h : sbAt (es ++ [e]) i a = some x) : (i < es.length ∧ sbAt es i a = some x) ∨ (i = es.length ∧ e.sb[a]? = some x) := by
  unfold sbAt at h
  by_cases hi : i < es.length
  · rw [List.getElem?_append_left hi] at h
    exact .inl ⟨hi, h⟩
  · by_cases he : i = es.length
    · subst he
      rw [List.getElem?_append_right (Nat.le_refl _), Nat.sub_self] at h
      exact .inr ⟨rfl, h⟩
    · rw [List.getElem?_append_right (by omega), List.getElem?_eq_none (by simp; omega)] at h
      cases h
/-- A record appended: its rows lie apart. -/
theorem NOwn.app {w : World} {B T S n C : Nat} {v : Value} {es : List El} {e : El} (ty : TypeId) {i0 : TypeInfo} {z : Value} {by_ : Nat} (hu : Tryz.prog.underlying ty = some (.slice T)) (hi0 : Tryz.prog.info? T = some i0) (hz0 : i0.zero = some z) (hz1 : i0.size = S) (hz2 : i0.bytes = by_) (hzs : z.cells.size = S) (hS : 0 < S) (hby : by_ ≤ 1000)
    (ho : NOwn w B T S v n es) (hw : e.hd.length = S) (h1 : ∀ u ∈ e.hd, u.oneCell' = true) (hd : ∀ x ∈ e.sb, w.ownsRow C x.t x.s x.v x.n x.cs) (hC : ∀ i, NBl v es i → i < C) (hBC : B ≤ C)
    (hf : ∀ (a b : Nat) (x y : Sb), e.sb[a]? = some x → e.sb[b]? = some y → a ≠ b → ∀ g, x.v.ownBlock = some g → y.v.ownBlock ≠ some g) (hz : n ≤ 900000) (hB : B ≤ w.heap.size) :
    ∃ v' w', (Builtin.append_ #[ty, ty] ty #[v, .slice (some ⟨w.heap.size, 0, none⟩) 1 1]).run Tryz.prog (w.alloc (.cells e.hd.toArray T)) = .ok v' w' ∧ NOwn w' B T S v' (n + 1) (es ++ [e]) ∧ (w.alloc (.cells e.hd.toArray T)).grownBy w' v.ownBlock ∧ v' ≠ .slice none 0 0 := by
  obtain ⟨W, hW⟩ : ∃ W, W = w.alloc (.cells e.hd.toArray T) := ⟨_, rfl⟩
  have bA : Below w.heap.size w W := by rw [hW]; exact (Below.refl _ _).alloc (Nat.le_refl _) _
  have zW : W.heap.size = w.heap.size + 1 := by rw [hW]; simp
  have hcells : ∀ j u, e.hd[j]? = some u → W.cell? ((⟨w.heap.size, 0, none⟩ : Addr).add j) = some u := fun j u hu => by
    have e2 : (⟨w.heap.size, 0, none⟩ : Addr).add j = ⟨w.heap.size, j, none⟩ := by unfold Addr.add; split <;> simp_all
    rw [e2, hW]
    exact rb_cell_new rfl (by simpa using hu)
  have hoa := ho.below bA
  rw [← hW]
  have hbb : (n + 1) * by_ ≤ 900001 * 1000 := Nat.mul_le_mul (by omega) hby
  obtain ⟨v', w', hrun, ho', hg, hn, hloc⟩ := app_at (P := Tryz.prog) (w := W) (B := B) ty ty T hu hi0 hz0 hz1 hz2 hzs hS hoa.row ⟨w.heap.size, 0, none⟩ 1 1 e.hd (by rw [hw]; omega) hcells h1 (by unfold maxLen; omega) (by omega) (by omega) (fun _ => by omega)
  have hwr := WrB.of_grown hg
  have up : ∀ (k b : Nat) (y : Sb), sbAt es k b = some y → ∀ g, y.v.ownBlock = some g → g < C := fun k b y hy g hg => hC g (.inr ⟨k, b, y, hy, hg⟩)
  have lo : ∀ (b : Nat) (y : Sb), e.sb[b]? = some y → ∀ g, y.v.ownBlock = some g → C ≤ g ∧ g < w.heap.size := fun b y hy g hg => (hd y (List.mem_of_getElem? hy)).lt g hg
  refine ⟨v', w', hrun, ⟨?_, by rw [List.length_append, ho.len]; rfl, fun y hy => ?_, fun k b y hy => ?_, fun k l b d y z hy hz hne => ?_, fun k b y hy g h1 h2 => ?_⟩, hg, hn⟩
  · rw [List.flatMap_append, List.flatMap_cons, List.flatMap_nil, List.append_nil]
    exact ho'
  · rcases List.mem_append.1 hy with hy | hy
    · exact ho.wid y hy
    · rw [List.mem_singleton.1 hy]; exact hw
  · rcases sbAt_snoc hy with ⟨_, hy⟩ | ⟨_, hy⟩
    · exact rr_owns_wr (hoa.dat k b y hy) hwr (fun q hq e => hoa.off k b y hy q e hq)
    · exact gd_base (rr_owns_wr (rb_ownsRow_below (hd y (List.mem_of_getElem? hy)) bA) hwr (fun q hq e => by have := (lo b y hy q hq).1; have := hC q (.inl e); omega)) hBC
  · rcases sbAt_snoc hy with ⟨hk, hy⟩ | ⟨hk, hy⟩
    · rcases sbAt_snoc hz with ⟨hl, hz⟩ | ⟨hl, hz⟩
      · exact ho.far k l b d y z hy hz hne
      · exact fun g h1 h2 => by have := up k b y hy g h1; have := (lo d z hz g h2).1; omega
    · rcases sbAt_snoc hz with ⟨hl, hz⟩ | ⟨hl, hz⟩
      · exact fun g h1 h2 => by have := (lo b y hy g h1).1; have := up l d z hz g h2; omega
      · exact hf b d y z hy hz (by rcases hne with h | h; exact absurd (hk.trans hl.symm) h; exact h)
  · rcases sbAt_snoc hy with ⟨_, hy⟩ | ⟨_, hy⟩
    · rcases hloc with e | e
      · exact ho.off k b y hy g (by rw [← e]; exact h1) h2
      · rw [e] at h1
        injection h1 with h1
        have := ((ho.dat k b y hy).lt g h2).2
        omega
    · rcases hloc with e | e
      · have := hC g (.inl (by rw [← e]; exact h1))
        have := (lo b y hy g h2).1
        omega
      · rw [e] at h1
        injection h1 with h1
        have := (lo b y hy g h2).2
        omega
end Go.Proofs.YtfajenejngddeaaGreat

namespace Go.Proofs.YtfajenejngddeaaGreat
open Go.RowKit

/-- A slice that has room for what it has; a nil one has none. -/
def Cap (s : Sl) : Prop := s.n ≤ s.c ∧ (s.a = none → s.c = 0)
/-- Versions as they read. -/
structure VzIn (w : World) (l f s : Sl) (hs : List SeH) (d : VsD) : Prop where
  vr : VRow w l.a l.n d.list
  fr : FRow w f.a f.n d.fen
  sr : SeIn w (.slice s.a s.n s.c) s.n hs
  ss : hs.map (·.X) = d.ses
  cl : Cap l
  cf : Cap f
  cw : ∀ h ∈ hs, Cap h.s0
theorem VzIn.below {w w' : World} {l f s : Sl} {hs : List SeH} {d : VsD} (h : VzIn w l f s hs d) (hb : Below w.heap.size w w') : VzIn w' l f s hs d :=
  ⟨h.vr.below hb, h.fr.below hb, h.sr.below hb, h.ss, h.cl, h.cf, h.cw⟩
theorem VzIn.len {w : World} {l f s : Sl} {hs : List SeH} {d : VsD} (h : VzIn w l f s hs d) : hs.length = s.n ∧ hs.length = d.ses.length := by
  have h1 := h.sr.len
  rw [List.length_map] at h1
  exact ⟨h1, by rw [← h.ss, List.length_map]⟩
theorem VzIn.at {w : World} {l f s : Sl} {hs : List SeH} {d : VsD} (h : VzIn w l f s hs d) {i : Nat} (hi : i < hs.length) : ∃ hd : i < d.ses.length, hs[i].X = d.ses[i] := by
  have e := h.ss
  have hl := h.len.2
  refine ⟨by omega, ?_⟩
  have : (hs.map (·.X))[i]'(by simpa using hi) = d.ses[i]'(by omega) := by simp only [e]
  simpa using this
theorem SeIn.row {w : World} {v : Value} {n : Nat} {hs : List SeH} (h : SeIn w v n hs) {k : Nat} (hk : k < hs.length) : VRow w hs[k].s0.a hs[k].s0.n hs[k].X.ws := vrow_C (SeIn.sub h hk)
/-- Versions in memory of their own. -/
structure VzOwn (w : World) (B : Nat) (l f s : Sl) (hs : List SeH) (d : VsD) : Prop where
  vo : VOwns w B (.slice l.a l.n l.c) d.list
  fo : FOwns w B (.slice f.a f.n f.c) d.fen
  so : SeOwn w B (.slice s.a s.n s.c) hs
  ss : hs.map (·.X) = d.ses
  far : ∀ i, (Value.slice l.a l.n l.c).ownBlock = some i → ¬ NBl (.slice s.a s.n s.c) (hs.map seEl) i
theorem cap_of_owns {w : World} {B e t n : Nat} {s : Sl} {cs : List Value} (h : w.ownsRow B e t (.slice s.a s.n s.c) n cs) : Cap s := by
  obtain ⟨a, m, c⟩ := s
  rcases h.2 with ⟨e, _⟩ | ⟨g, cap, cur, e, hb, hh, hc, _⟩
  · injection e with e1 e2 e3
    subst e1 e2 e3
    exact ⟨Nat.le_refl _, fun _ => rfl⟩
  · injection e with e1 e2 e3
    subst e1 e2 e3
    exact ⟨hc, fun h => by cases h⟩
theorem owns_n {w : World} {B e t n m c : Nat} {a : Option Addr} {cs : List Value} (h : w.ownsRow B e t (.slice a m c) n cs) : m = n := by
  rcases h.2 with ⟨e, hn⟩ | ⟨g, cap, cur, e, _⟩
  · injection e with _ e2 _; omega
  · injection e
theorem VzOwn.reads {w : World} {B : Nat} {l f s : Sl} {hs : List SeH} {d : VsD} (h : VzOwn w B l f s hs d) : VzIn w l f s hs d :=
  ⟨vrow_of_owns h.vo, frow_of_owns h.fo, by have := h.so.reads; rw [← owns_n h.so.row] at this; exact this, h.ss, cap_of_owns h.vo, cap_of_owns h.fo, fun x hx => by
    obtain ⟨k, hk, rfl⟩ := List.getElem_of_mem hx
    exact cap_of_owns (h.so.dat k 0 _ (by unfold sbAt; rw [seEl_at hk]; rfl))⟩
theorem VzOwn.below {w w' : World} {B : Nat} {l f s : Sl} {hs : List SeH} {d : VsD} (h : VzOwn w B l f s hs d) (hb : Below w.heap.size w w') : VzOwn w' B l f s hs d :=
  ⟨rb_ownsRow_below h.vo hb, rb_ownsRow_below h.fo hb, h.so.below hb, h.ss, h.far⟩
theorem VzOwn.dn {w : World} {B C : Nat} {l f s : Sl} {hs : List SeH} {d : VsD} (h : VzOwn w B l f s hs d) (hc : C ≤ B) : VzOwn w C l f s hs d :=
  ⟨gd_base h.vo hc, gd_base h.fo hc, h.so.down hc, h.ss, h.far⟩
/-- The box of versions that a call is given. -/
abbrev vzC (next : Int) (l f s : Sl) : Array Value := #[.int .i64 next, .slice l.a l.n l.c, .slice f.a f.n f.c, .slice s.a s.n s.c]
end Go.Proofs.YtfajenejngddeaaGreat

namespace Go.Proofs.YtfajenejngddeaaGreat
open Go.RowKit

theorem kowns_e {w : World} {B : Nat} {v : Value} {ds : List KvD} (h : KOwns w B v ds) : EOwns w B v (ds.map kvE) := by
  unfold EOwns
  rw [List.length_map, ← kcs_ecs]
  exact h
/-- What a session sees behind so many of its writes. -/
def seenTo (d : VsD) (s : SesD) (k : Nat) : List EntD := (s.ws.take k).foldl (fun es x => putE es ⟨x.k, x.v⟩ x.g) ((entsAt d.list s.t).map kvE)
theorem seenTo_zero (d : VsD) (s : SesD) : seenTo d s 0 = (entsAt d.list s.t).map kvE := by simp [seenTo]
theorem seenTo_succ (d : VsD) (s : SesD) {k : Nat} (h : k < s.ws.length) : seenTo d s (k + 1) = putE (seenTo d s k) ⟨s.ws[k].k, s.ws[k].v⟩ s.ws[k].g := by
  unfold seenTo
  rw [takeG_snoc s.ws k h, List.foldl_append]
  rfl
theorem seenTo_all (d : VsD) (s : SesD) : seenTo d s s.ws.length = seenV d s := by unfold seenTo seenV; rw [List.take_length]
theorem putE_len (es : List EntD) (e : EntD) (g : Bool) : (putE es e g).length ≤ es.length + 1 := stepE_len _ _
theorem seenTo_len (d : VsD) (s : SesD) : ∀ k, k ≤ s.ws.length → (seenTo d s k).length ≤ d.list.length + k
  | 0, _ => by rw [seenTo_zero, List.length_map]; exact entsTo_len _ _ _
  | k + 1, h => by
    rw [seenTo_succ d s (by omega)]
    have := seenTo_len d s k (by omega)
    have := putE_len (seenTo d s k) ⟨s.ws[k].k, s.ws[k].v⟩ s.ws[k].g
    omega
theorem eowns_cap {w : World} {B g n c : Nat} {es : List EntD} (h : EOwns w B (.slice (some ⟨g, 0, none⟩) n c) es) : n ≤ c := (cap_of_owns (s := ⟨some ⟨g, 0, none⟩, n, c⟩) h).1
abbrev sesC (o : Bool) (t : Int) (s : Sl) : Array Value := #[.bool o, .int .i64 t, .slice s.a s.n s.c]
set_option maxRecDepth 100000 in
set_option maxHeartbeats 8000000 in
theorem l06Seen_any (next : Int) (l f s ws : Sl) (d : VsD) (x : SesD) (w : World) (hl : VRow w l.a l.n d.list) (hw : VRow w ws.a ws.n x.ws) (hz : d.list.length + x.ws.length ≤ 1000) :
    Calls Tryz.prog 57 #[.agg (vzC next l f s), .agg (sesC x.o x.t ws)] w fun e w' => ∃ g k, e = .returned (.slice (some ⟨g, 0, none⟩) (seenV d x).length k) ∧ EOwns w' w.heap.size (.slice (some ⟨g, 0, none⟩) (seenV d x).length k) (seenV d x) ∧ Below w.heap.size w w' := by
  obtain ⟨la, ln, lc⟩ := l
  obtain ⟨fa, fn, fc⟩ := f
  obtain ⟨sa, sn, sc⟩ := s
  obtain ⟨wa, wn, wc⟩ := ws
  unfold vzC sesC
  simp only at hl hw ⊢
  obtain ⟨W, hW⟩ : ∃ W, W = (w.alloc (.cells #[.int .i64 next, .slice la ln lc, .slice fa fn fc, .slice sa sn sc] 27)).alloc (.cells #[.bool x.o, .int .i64 x.t, .slice wa wn wc] 93) := ⟨_, rfl⟩
  have b1 : Below w.heap.size w W := by rw [hW]; exact ((Below.refl _ _).alloc (Nat.le_refl _) _).alloc (by simp) _
  have hzW : W.heap.size = w.heap.size + 1 + 1 := by rw [hW]; simp
  have ks : W.heap[w.heap.size + 1]? = some (.cells #[.bool x.o, .int .i64 x.t, .slice wa wn wc] 93 (0, 0)) := by
    rw [hW]
    have e : w.heap.size + 1 = (w.alloc (.cells #[.int .i64 next, .slice la ln lc, .slice fa fn fc, .slice sa sn sc] 27)).heap.size := by simp
    rw [e]
    exact heap_alloc_new _ _
  have kv : W.heap[w.heap.size]? = some (.cells #[.int .i64 next, .slice la ln lc, .slice fa fn fc, .slice sa sn sc] 27 (0, 0)) := by
    rw [hW]
    exact (((Below.refl _ _).alloc (Nat.le_refl _) _).block w.heap.size (by simp)).trans (heap_alloc_new _ _)
  have v1 := (heap_at kv 1).1
  have s1 := (heap_at ks 1).1
  have KS := hide ks
  have EN := hide (l06Entries_nn la ln lc d.list x.t W (by have := hl.1; omega) (hl.below b1))
  have HW := hide hw
  have LW := hide hw.1
  have BH := hide b1
  have HZ := hide hzW
  have SL := hide (fun k h => seenTo_len d x k h)
  have S0 := hide (seenTo_zero d x)
  have SS := hide (fun k (h : k < x.ws.length) => seenTo_succ d x h)
  have SA := hide (seenTo_all d x)
  have hzz : d.list.length + wn ≤ 1000 := by have := hw.1; omega
  clear hl hw kv ks b1 hzW hz
  go_enter Tryz.func57, Tryz.ntmps57
  go_wp2_with fail
  rw [← hW]
  clear hW
  refine (unhide EN).mono ?_
  rintro e w1 ⟨v, rfl, ⟨hk, hnn⟩, hb1⟩
  have OE := hide (show EOwns w1 W.heap.size v (seenTo d x 0) by rw [unhide S0]; exact kowns_e hk)
  obtain ⟨g0, k0, rfl, -, -, -⟩ := owns_form (unhide OE) hnn
  clear EN hk hnn v1 s1
  have hz1 : w.heap.size + 1 < W.heap.size := by have := unhide HZ; omega
  have ks1 := (hb1.block (w.heap.size + 1) hz1).trans (unhide KS)
  have s1 := (heap_at ks1 1).1
  have s2 := (heap_at ks1 2).1
  go_wp2_with fail
  clear s1 s2 ks1
  go_loopw [5, 6] (fun v i wr => ∃ (k g c : Nat), v = .slice (some ⟨g, 0, none⟩) (seenTo d x k).length c ∧ i = .int .i64 (k : Int) ∧ k ≤ wn ∧ Hid (EOwns wr W.heap.size (.slice (some ⟨g, 0, none⟩) (seenTo d x k).length c) (seenTo d x k)) ∧ Hid (Below W.heap.size W wr)) (fun _ i _ => wn - (intOf i).toNat)
  case atStart => exact ⟨0, g0, k0, rfl, rfl, Nat.zero_le _, OE, hb1⟩
  case round =>
    clear OE hb1
    obtain ⟨k, g, c, rfl, rfl, hk, hO, hB⟩ := hrel
    have ks1 := ((unhide hB).block (w.heap.size + 1) hz1).trans (unhide KS)
    have s1 := (heap_at ks1 1).1
    have s2 := (heap_at ks1 2).1
    by_cases hlt : k < wn
    case neg =>
      obtain rfl : k = wn := by omega
      have Z := hide (show seenTo d x k = seenV d x by rw [← unhide SA, unhide LW])
      rw [unhide Z] at hO ⊢
      have BB := hide ((unhide BH).trans ((unhide hB).mono (unhide BH).size))
      have hsW := (unhide BH).size
      go_wp2_with fail
      go_ret
      exact ⟨g, c, rfl, gd_base (unhide hO) hsW, unhide BB⟩
    have hk2 : k < x.ws.length := by rw [unhide LW]; exact hlt
    obtain ⟨b, off, rfl, d0, -, d2, d3⟩ := ((unhide HW).below ((unhide BH).trans ((unhide hB).mono (unhide BH).size))).2 k hk2
    have hkn : (k : Int) < (wn : Int) := by omega
    have Z := hide (unhide SS k hk2)
    have hsl := unhide SL k (by omega)
    have hwr : W.heap.size ≤ wr.heap.size := (unhide hB).size
    generalize x.ws[k] = pd at *
    obtain ⟨pk, pt, pv, pg⟩ := pd
    simp only at d0 d2 d3 Z
    have SP := hide (fun (u : World) (hb : Below wr.heap.size wr u) => (l04Put_any g 0 (seenTo d x k).length c (seenTo d x k) ⟨pk, pv⟩ pg u ((erow_of_owns (unhide hO)).below hb) (by omega) (eowns_cap (unhide hO))).mono fun e u' h => show ∃ g' c', e = .returned (.slice (some ⟨g', 0, none⟩) (seenTo d x (k + 1)).length c') ∧ EOwns u' W.heap.size (.slice (some ⟨g', 0, none⟩) (seenTo d x (k + 1)).length c') (seenTo d x (k + 1)) ∧ Below wr.heap.size wr u' by
      obtain ⟨g', c', h1, h2, h3⟩ := h
      rw [unhide Z]
      exact ⟨g', c', h1, gd_base h2 (Nat.le_trans hwr hb.size), hb.trans (h3.mono hb.size)⟩)
    have SK := hide (show ∀ u, Below wr.heap.size wr u → (u.cell? ⟨w.heap.size + 1, 2, none⟩ = some (.slice (some ⟨b, off, none⟩) wn wc) ∧ u.cell? ⟨b, off + k * 4, none⟩ = some (.string pk) ∧ u.cell? ⟨b, off + k * 4 + 2, none⟩ = some (.string pv) ∧ u.cell? ⟨b, off + k * 4 + 3, none⟩ = some (.bool pg)) from fun u hb =>
      ⟨(hb.cell (p := ⟨w.heap.size + 1, 2, none⟩) (cell_lt s2)).trans s2, (hb.cell (p := ⟨b, off + k * 4, none⟩) (cell_lt d0)).trans d0, (hb.cell (p := ⟨b, off + k * 4 + 2, none⟩) (cell_lt d2)).trans d2, (hb.cell (p := ⟨b, off + k * 4 + 3, none⟩) (cell_lt d3)).trans d3⟩)
    have G0 : Below wr.heap.size wr wr.drew := (Below.refl _ _).drew
    clear d0 d2 d3 s1 ks1
    go_upto_region 5 with fail
    clear s2
    generalize (seenTo d x k).length = mm at *
    refine wp_region_held_drew (S := (fun u => (u.cell? ⟨w.heap.size + 1, 2, none⟩ = some (.slice (some ⟨b, off, none⟩) wn wc) ∧ u.cell? ⟨b, off + k * 4, none⟩ = some (.string pk) ∧ u.cell? ⟨b, off + k * 4 + 2, none⟩ = some (.string pv) ∧ u.cell? ⟨b, off + k * 4 + 3, none⟩ = some (.bool pg)))) (by kernel_rfl) (unhide SK _ G0) (fun hHeld => ?_)
    refine anyH_take 0 19 (v := ?v1) rfl rfl (by kernel_rfl) (by kernel_rfl) (by kernel_rfl) (fun _ _ _ h => h) (by rfl) ?h1 hHeld ?r1
    case h1 => (intro w hSw; (try dsimp only at hSw); go_simp; try (with_reducible rfl))
    simp only [Act.put, List.setIfInBounds_toArray, List.set_cons_zero, List.set_cons_succ]
    refine anyH_take 1 20 (v := ?v2) rfl rfl (by kernel_rfl) (by kernel_rfl) (by kernel_rfl) (fun _ _ _ h => h) (by rfl) ?h2 hHeld ?r2
    case h2 => (intro w hSw; (try dsimp only at hSw); go_simp; try (with_reducible rfl))
    simp only [Act.put, List.setIfInBounds_toArray, List.set_cons_zero, List.set_cons_succ]
    refine anyH_take 2 21 (v := ?v3) rfl rfl (by kernel_rfl) (by kernel_rfl) (by kernel_rfl) (fun _ _ _ h => h) (by rfl) ?h3 hHeld ?r3
    case h3 => (intro w hSw; (try dsimp only at hSw); go_simp; try (with_reducible rfl))
    simp only [Act.put, List.setIfInBounds_toArray, List.set_cons_zero, List.set_cons_succ]
    refine anyH_take 3 22 (v := ?v4) rfl rfl (by kernel_rfl) (by kernel_rfl) (by kernel_rfl) (fun _ _ _ h => h) (by rfl) ?h4 hHeld ?r4
    case h4 => (intro w hSw; (try dsimp only at hSw); go_simp; try (with_reducible rfl))
    simp only [Act.put, List.setIfInBounds_toArray, List.set_cons_zero, List.set_cons_succ]
    refine anyH_take 4 23 (v := ?v5) rfl rfl (by kernel_rfl) (by kernel_rfl) (by kernel_rfl) (fun _ _ _ h => h) (by rfl) ?h5 hHeld ?r5
    case h5 => (intro w hSw; (try dsimp only at hSw); go_simp; try (with_reducible rfl))
    simp only [Act.put, List.setIfInBounds_toArray, List.set_cons_zero, List.set_cons_succ]
    refine anyH_take 5 24 (v := ?v6) rfl rfl (by kernel_rfl) (by kernel_rfl) (by kernel_rfl) (fun _ _ _ h => h) (by rfl) ?h6 hHeld ?r6
    case h6 => (intro w hSw; (try dsimp only at hSw); go_simp; try (with_reducible rfl))
    simp only [Act.put, List.setIfInBounds_toArray, List.set_cons_zero, List.set_cons_succ]
    refine anyH_take 6 25 (v := ?v7) rfl rfl (by kernel_rfl) (by kernel_rfl) (by kernel_rfl) (fun _ _ _ h => h) (by rfl) ?h7 hHeld ?r7
    case h7 => (intro w hSw; (try dsimp only at hSw); go_simp; try (with_reducible rfl))
    simp only [Act.put, List.setIfInBounds_toArray, List.set_cons_zero, List.set_cons_succ]
    refine anyH_take 7 26 (v := ?v8) rfl rfl (by kernel_rfl) (by kernel_rfl) (by kernel_rfl) (fun _ _ _ h => h) (by rfl) ?h8 hHeld ?r8
    case h8 => (intro w hSw; (try dsimp only at hSw); go_simp; try (with_reducible rfl))
    simp only [Act.put, List.setIfInBounds_toArray, List.set_cons_zero, List.set_cons_succ]
    refine anyH_take 8 27 (v := ?v9) rfl rfl (by kernel_rfl) (by kernel_rfl) (by kernel_rfl) (fun _ _ _ h => h) (by rfl) ?h9 hHeld ?r9
    case h9 => (intro w hSw; (try dsimp only at hSw); go_simp; try (with_reducible rfl))
    simp only [Act.put, List.setIfInBounds_toArray, List.set_cons_zero, List.set_cons_succ]
    refine anyH_take 9 28 (v := ?v10) rfl rfl (by kernel_rfl) (by kernel_rfl) (by kernel_rfl) (fun _ _ _ h => h) (by rfl) ?h10 hHeld ?r10
    case h10 => (intro w hSw; (try dsimp only at hSw); go_simp; try (with_reducible rfl))
    simp only [Act.put, List.setIfInBounds_toArray, List.set_cons_zero, List.set_cons_succ]
    refine anyH_take 10 29 (v := ?v11) rfl rfl (by kernel_rfl) (by kernel_rfl) (by kernel_rfl) (fun _ _ _ h => h) (by rfl) ?h11 hHeld ?r11
    case h11 => (intro w hSw; (try dsimp only at hSw); go_simp; try (with_reducible rfl))
    simp only [Act.put, List.setIfInBounds_toArray, List.set_cons_zero, List.set_cons_succ]
    refine anyH_take 11 30 (v := ?v12) rfl rfl (by kernel_rfl) (by kernel_rfl) (by kernel_rfl) (fun _ _ _ h => h) (by rfl) ?h12 hHeld ?r12
    case h12 => (intro w hSw; (try dsimp only at hSw); go_simp; try (with_reducible rfl))
    simp only [Act.put, List.setIfInBounds_toArray, List.set_cons_zero, List.set_cons_succ]
    refine anyH_take 12 31 (v := ?v13) rfl rfl (by kernel_rfl) (by kernel_rfl) (by kernel_rfl) (fun _ _ _ h => h) (by rfl) ?h13 hHeld ?r13
    case h13 => (intro w hSw; (try dsimp only at hSw); go_simp; try (with_reducible rfl))
    simp only [Act.put, List.setIfInBounds_toArray, List.set_cons_zero, List.set_cons_succ]
    refine anyH_take 13 32 (v := ?v14) rfl rfl (by kernel_rfl) (by kernel_rfl) (by kernel_rfl) (fun _ _ _ h => h) (by rfl) ?h14 hHeld ?r14
    case h14 => (intro w hSw; (try dsimp only at hSw); go_simp; try (with_reducible rfl))
    simp only [Act.put, List.setIfInBounds_toArray, List.set_cons_zero, List.set_cons_succ]
    refine anyH_take 14 33 (v := ?v15) rfl rfl (by kernel_rfl) (by kernel_rfl) (by kernel_rfl) (fun _ _ _ h => h) (by rfl) ?h15 hHeld ?r15
    case h15 => (intro w hSw; (try dsimp only at hSw); go_simp; try (with_reducible rfl))
    simp only [Act.put, List.setIfInBounds_toArray, List.set_cons_zero, List.set_cons_succ]
    refine anyH_take 15 34 (v := ?v16) rfl rfl (by kernel_rfl) (by kernel_rfl) (by kernel_rfl) (fun _ _ _ h => h) (by rfl) ?h16 hHeld ?r16
    case h16 => (intro w hSw; (try dsimp only at hSw); go_simp; try (with_reducible rfl))
    simp only [Act.put, List.setIfInBounds_toArray, List.set_cons_zero, List.set_cons_succ]
    refine anyH_take 16 35 (v := ?v17) rfl rfl (by kernel_rfl) (by kernel_rfl) (by kernel_rfl) (fun _ _ _ h => h) (by rfl) ?h17 hHeld ?r17
    case h17 => (intro w hSw; (try dsimp only at hSw); go_simp; try (with_reducible rfl))
    simp only [Act.put, List.setIfInBounds_toArray, List.set_cons_zero, List.set_cons_succ]
    refine anyH_take 17 36 (v := ?v18) rfl rfl (by kernel_rfl) (by kernel_rfl) (by kernel_rfl) (fun _ _ _ h => h) (by rfl) ?h18 hHeld ?r18
    case h18 => (intro w hSw; (try dsimp only at hSw); go_simp; try (with_reducible rfl))
    simp only [Act.put, List.setIfInBounds_toArray, List.set_cons_zero, List.set_cons_succ]
    refine anyH_take 18 37 (v := ?v19) rfl rfl (by kernel_rfl) (by kernel_rfl) (by kernel_rfl) (fun _ _ _ h => h) (by rfl) ?h19 hHeld ?r19
    case h19 => (intro w hSw; (try dsimp only at hSw); go_simp; try (with_reducible rfl))
    simp only [Act.put, List.setIfInBounds_toArray, List.set_cons_zero, List.set_cons_succ]
    refine anyH_take 19 38 (v := ?v20) rfl rfl (by kernel_rfl) (by kernel_rfl) (by kernel_rfl) (fun _ _ _ h => h) (by rfl) ?h20 hHeld ?r20
    case h20 => (intro w hSw; (try dsimp only at hSw); go_simp; try (with_reducible rfl))
    simp only [Act.put, List.setIfInBounds_toArray, List.set_cons_zero, List.set_cons_succ]
    refine wpAnyH_ready (rs := [20]) (by kernel_rfl) (by simp) ?_
    refine AllReadyH.cons rfl (fun K hK => ?_) AllReadyH.nil
    go_simp
    refine (unhide SP _ G0).mono ?_
    rintro e w2 ⟨g', c', rfl, o2, b2⟩
    refine hK.out _ _ (unhide SK _ b2) (fun hHeld => ?_)
    clear hK K
    refine anyH_take 21 5 (v := ?v21) rfl rfl (by kernel_rfl) (by kernel_rfl) (by kernel_rfl) (fun _ _ _ h => h) (by rfl) ?h21 hHeld ?r21
    case h21 => (intro w hSw; (try dsimp only at hSw); go_simp; try (with_reducible rfl))
    simp only [Act.put, List.setIfInBounds_toArray, List.set_cons_zero, List.set_cons_succ]
    refine wpAnyH_done (by kernel_rfl) ?_ _
    clear hHeld
    have BF := hide ((unhide hB).trans (b2.mono hwr))
    have OF := hide o2
    clear o2 b2 G0 SP SK hO hB
    go_wp2_with fail
    go_roundw
    case rel => exact ⟨k + 1, g', c', rfl, by go_num, by omega, unhide OF, unhide BF⟩
    case measure => simp [intOf]; omega
theorem con_list {d : VsD} {x : VerD} {i : Nat} (hi : i < d.list.length) (h1 : d.list[i].k = x.k) (h2 : x.t < d.list[i].t) : conV d x = true := by
  unfold conV
  rw [Bool.or_eq_true, List.any_eq_true]
  exact .inl ⟨d.list[i], List.getElem_mem hi, by simp [h1, h2]⟩
theorem con_fen {d : VsD} {x : VerD} {i : Nat} (hi : i < d.fen.length) (h1 : x.t < d.fen[i].t) (h2 : inK d.fen[i].f d.fen[i].u x.k = true) : conV d x = true := by
  unfold conV
  rw [Bool.or_eq_true, List.any_eq_true, List.any_eq_true]
  exact .inr ⟨d.fen[i], List.getElem_mem hi, by simp [h1, h2]⟩
theorem con_no {d : VsD} {x : VerD} (h1 : ∀ i (hi : i < d.list.length), ¬ (d.list[i].k = x.k ∧ x.t < d.list[i].t)) (h2 : ∀ i (hi : i < d.fen.length), ¬ (x.t < d.fen[i].t ∧ inK d.fen[i].f d.fen[i].u x.k = true)) : conV d x = false := by
  unfold conV
  rw [Bool.or_eq_false_iff, List.any_eq_false, List.any_eq_false]
  refine ⟨fun y hy => ?_, fun y hy => ?_⟩
  · obtain ⟨i, hi, rfl⟩ := List.getElem_of_mem hy
    have := h1 i hi
    simpa using this
  · obtain ⟨i, hi, rfl⟩ := List.getElem_of_mem hy
    have := h2 i hi
    simpa using this
theorem up_to {α : Type} {l : List α} {P : α → Prop} {k : Nat} (hk : k < l.length) (h : ∀ i (hi : i < l.length), i < k → P l[i]) (hp : P l[k]) : ∀ i (hi : i < l.length), i < k + 1 → P l[i] := fun i hi hl => by
  by_cases e : i < k
  · exact h i hi e
  · obtain rfl : i = k := by omega
    exact hp
end Go.Proofs.YtfajenejngddeaaGreat

namespace Go.Proofs.YtfajenejngddeaaGreat
open Go.RowKit

theorem twoBx {w : World} {c1 c2 : Array Value} {t1 t2 : TypeId} {W : World} (hW : W = (w.alloc (.cells c1 t1)).alloc (.cells c2 t2)) :
    Below w.heap.size w W ∧ W.heap[w.heap.size]? = some (.cells c1 t1 (0, 0)) ∧ W.heap[w.heap.size + 1]? = some (.cells c2 t2 (0, 0)) ∧ W.heap.size = w.heap.size + 1 + 1 := by
  subst hW
  refine ⟨((Below.refl _ _).alloc (Nat.le_refl _) _).alloc (by simp) _, (((Below.refl _ _).alloc (Nat.le_refl _) _).block w.heap.size (by simp)).trans (heap_alloc_new _ _), ?_, by simp⟩
  have e : w.heap.size + 1 = (w.alloc (.cells c1 t1)).heap.size := by simp
  rw [e]
  exact heap_alloc_new _ _
set_option maxRecDepth 100000 in
set_option maxHeartbeats 8000000 in
theorem l06Conflict_any (next : Int) (l f s : Sl) (d : VsD) (x : VerD) (w : World) (hl : VRow w l.a l.n d.list) (hf : FRow w f.a f.n d.fen) (hln : l.n ≤ 1000000) (hfn : f.n ≤ 1000000) :
    Calls Tryz.prog 97 #[.agg (vzC next l f s), vv x] w fun e w' => e = .returned (.bool (conV d x)) ∧ Below w.heap.size w w' := by
  obtain ⟨la, ln, lc⟩ := l
  obtain ⟨fa, fn, fc⟩ := f
  obtain ⟨sa, sn, sc⟩ := s
  unfold vzC vv
  simp only at hl hf hln hfn ⊢
  obtain ⟨W, hW⟩ : ∃ W, W = (w.alloc (.cells #[.int .i64 next, .slice la ln lc, .slice fa fn fc, .slice sa sn sc] 27)).alloc (.cells #[.string x.k, .int .i64 x.t, .string x.v, .bool x.g] 39) := ⟨_, rfl⟩
  obtain ⟨b1, kv, kx, hz⟩ := twoBx hW
  have KV := hide kv
  have KX := hide kx
  have BH := hide b1
  have HZ := hide hz
  have HL := hide hl
  have HF := hide hf
  have LL := hide hl.1
  have LF := hide hf.1
  have YL := hide (fun i (hi : i < d.list.length) h1 h2 => con_list (x := x) hi h1 h2)
  have YF := hide (fun i (hi : i < d.fen.length) h1 h2 => con_fen (x := x) hi h1 h2)
  have NO := hide (fun h1 h2 => con_no (d := d) (x := x) h1 h2)
  generalize conV d x = C at *
  clear hl hf b1 kv kx hz
  have hb0 : w.heap.size < W.heap.size := by have := unhide HZ; omega
  have hb1 : w.heap.size + 1 < W.heap.size := by have := unhide HZ; omega
  go_enter Tryz.func97, Tryz.ntmps97
  go_wp2_with fail
  rw [← hW]
  clear hW
  go_loopw [5] (fun i wr => ∃ k : Nat, i = .int .i64 (k : Int) ∧ k ≤ ln ∧ Hid (∀ i (hi : i < d.list.length), i < k → ¬ (d.list[i].k = x.k ∧ x.t < d.list[i].t)) ∧ Hid (Below W.heap.size W wr)) (fun i _ => ln - (intOf i).toNat)
  case atStart => exact ⟨0, rfl, Nat.zero_le _, (fun i _ h => absurd h (Nat.not_lt_zero _)), Below.refl _ _⟩
  case round =>
    obtain ⟨k, rfl, hk, hN, hB⟩ := hrel
    have kv := ((unhide hB).block w.heap.size hb0).trans (unhide KV)
    have kx := ((unhide hB).block (w.heap.size + 1) hb1).trans (unhide KX)
    have v1 := (heap_at kv 1).1
    have x0 := (heap_at kx 0).1
    have x1 := (heap_at kx 1).1
    by_cases hlt : k < ln
    · have hk2 : k < d.list.length := by rw [unhide LL]; exact hlt
      obtain ⟨b, off, rfl, d0, d1, -, -⟩ := ((unhide HL).below ((unhide BH).trans ((unhide hB).mono (unhide BH).size))).2 k hk2
      have hkn : (k : Int) < (ln : Int) := by omega
      have Y := hide (unhide YL k hk2)
      have UP := hide (fun h => up_to (P := fun y : VerD => ¬ (y.k = x.k ∧ x.t < y.t)) hk2 (unhide hN) h)
      generalize d.list[k] = pd at *
      obtain ⟨pk, pt, pv, pg⟩ := pd
      simp only at d0 d1 Y UP
      clear hN kv kx
      by_cases hke : pk = x.k
      · have hkb : (pk.toList == x.k.toList) = true := by rw [hke]; simp
        by_cases hte : x.t < pt
        · have htb : decide (x.t < pt) = true := decide_eq_true hte
          have Z := hide (unhide Y hke hte)
          have BF := hide (unhide BH |>.trans ((unhide hB).mono (unhide BH).size))
          clear hke hte Y UP
          go_wp2_with fail
          go_quiet (fail)
          go_wp2_with fail
          go_ret
          exact ⟨ret_bool (unhide Z).symm, bel_drewN (unhide BF) _⟩
        · have htb : decide (x.t < pt) = false := decide_eq_false hte
          have Z := hide (unhide UP (fun h => hte h.2))
          clear hke hte Y UP
          go_wp2_with fail
          go_quiet (fail)
          go_wp2_with fail
          go_roundw
          case rel => exact ⟨k + 1, by go_num, by omega, unhide Z, bel_drewN (unhide hB) _⟩
          case measure => simp [intOf]; omega
      · have hkb : (pk.toList == x.k.toList) = false := by simpa using fun e => hke (toList_inj e)
        have Z := hide (unhide UP (fun h => hke h.1))
        clear hke Y UP
        go_wp2_with fail
        go_quiet (fail)
        go_wp2_with fail
        go_roundw
        case rel => exact ⟨k + 1, by go_num, by omega, unhide Z, bel_drewN (unhide hB) _⟩
        case measure => simp [intOf]; omega
    · obtain rfl : k = ln := by omega
      have N1 := hide (show ∀ i (hi : i < d.list.length), ¬ (d.list[i].k = x.k ∧ x.t < d.list[i].t) from fun i hi => unhide hN i hi (by have := unhide LL; omega))
      clear hN kv kx x0 x1
      go_wp2_with fail
      clear v1
      go_loopw [6] (fun i wr => ∃ k : Nat, i = .int .i64 (k : Int) ∧ k ≤ fn ∧ Hid (∀ i (hi : i < d.fen.length), i < k → ¬ (x.t < d.fen[i].t ∧ inK d.fen[i].f d.fen[i].u x.k = true)) ∧ Hid (Below W.heap.size W wr)) (fun i _ => fn - (intOf i).toNat)
      case atStart => exact ⟨0, rfl, Nat.zero_le _, (fun i _ h => absurd h (Nat.not_lt_zero _)), unhide hB⟩
      case round =>
        clear hB
        obtain ⟨k, rfl, hk, hN, hB⟩ := hrel
        have kv := ((unhide hB).block w.heap.size hb0).trans (unhide KV)
        have kx := ((unhide hB).block (w.heap.size + 1) hb1).trans (unhide KX)
        have v2 := (heap_at kv 2).1
        have hwr := (unhide hB).size
        by_cases hlt : k < fn
        · have hk2 : k < d.fen.length := by rw [unhide LF]; exact hlt
          obtain ⟨b, off, rfl, d0, d1, d2⟩ := ((unhide HF).below ((unhide BH).trans ((unhide hB).mono (unhide BH).size))).2 k hk2
          have hkn : (k : Int) < (fn : Int) := by omega
          have Y := hide (unhide YF k hk2)
          have UP := hide (fun h => up_to (P := fun y : FenD => ¬ (x.t < y.t ∧ inK y.f y.u x.k = true)) hk2 (unhide hN) h)
          generalize d.fen[k] = pd at *
          obtain ⟨pf, pu, pt⟩ := pd
          simp only at d0 d1 d2 Y UP
          have bA : Below wr.heap.size wr (wr.alloc (.cells #[.string pf, .string pu, .int .i64 pt] 90)) := (Below.refl _ _).alloc (Nat.le_refl _) _
          have kf := heap_alloc_new wr (.cells #[.string pf, .string pu, .int .i64 pt] 90)
          have kx2 := (bA.block (w.heap.size + 1) (by omega)).trans kx
          have BA := hide ((unhide hB).trans (bA.mono hwr))
          clear hN kv kx bA
          go_upto_region 10 with fail
          clear v2 d0 d1 d2
          generalize wr.alloc (.cells #[.string pf, .string pu, .int .i64 pt] 90) = wa at *
          generalize wr.heap.size = fb at *
          have f0 := (heap_at kf 0).1
          have f1 := (heap_at kf 1).1
          have f2 := (heap_at kf 2).1
          have x0 := (heap_at kx2 0).1
          have x1 := (heap_at kx2 1).1
          clear kf kx2 hB
          by_cases ht : x.t < pt
          · have htb : decide (x.t < pt) = true := decide_eq_true ht
            cases hlo : ltK x.k pf
            · have hlb : Op.bytesLess x.k.toList pf.toList = false := hlo
              have IK := hide (show inK pf pu x.k = underK x.k pu by unfold inK underK; rw [hlo]; rfl)
              have CU := hide (l04Under_any x.k pu wa)
              cases hun : underK x.k pu
              · have Z := hide (unhide UP (fun h => by rw [unhide IK, hun] at h; exact absurd h.2 (by decide)))
                rw [hun] at CU
                clear ht hlo hun Y UP IK
                go_wp2_with (go_at_call 96; refine (unhide CU).mono ?_; rintro e w5 ⟨rfl, rfl⟩)
                go_roundw
                case rel => exact ⟨k + 1, by go_num, by omega, unhide Z, unhide BA⟩
                case measure => simp [intOf]; omega
              · have Z := hide (unhide Y ht (by rw [unhide IK]; exact hun))
                rw [hun] at CU
                have BF := hide ((unhide BH).trans ((unhide BA).mono (unhide BH).size))
                clear ht hlo hun Y UP IK
                go_wp2_with (go_at_call 96; refine (unhide CU).mono ?_; rintro e w5 ⟨rfl, rfl⟩)
                go_ret
                exact ⟨ret_bool (unhide Z).symm, unhide BF⟩
            · have hlb : Op.bytesLess x.k.toList pf.toList = true := hlo
              have Z := hide (unhide UP (fun h => by have h2 := h.2; unfold inK at h2; rw [hlo] at h2; simp at h2))
              clear ht hlo Y UP
              go_wp2_with fail
              go_roundw
              case rel => exact ⟨k + 1, by go_num, by omega, unhide Z, unhide BA⟩
              case measure => simp [intOf]; omega
          · have htb : decide (x.t < pt) = false := decide_eq_false ht
            have Z := hide (unhide UP (fun h => ht h.1))
            clear ht Y UP
            go_wp2_with fail
            go_roundw
            case rel => exact ⟨k + 1, by go_num, by omega, unhide Z, unhide BA⟩
            case measure => simp [intOf]; omega
        · obtain rfl : k = fn := by omega
          have Z := hide (unhide NO (unhide N1) (fun i hi => unhide hN i hi (by have := unhide LF; omega)))
          have BF := hide ((unhide BH).trans ((unhide hB).mono (unhide BH).size))
          clear hN kv kx
          go_wp2_with fail
          go_ret
          exact ⟨ret_bool (unhide Z).symm, unhide BF⟩
end Go.Proofs.YtfajenejngddeaaGreat

namespace Go.Proofs.YtfajenejngddeaaGreat
open Go.RowKit

theorem own_kind {w : World} {B t s n i : Nat} {v : Value} {cs : List Value} (h : w.ownsRow B t s v n cs) (hi : v.ownBlock = some i) : ∃ cur, w.heap[i]? = some (.cells cur t (0, 0)) := by
  rcases h.2 with ⟨e, _⟩ | ⟨g, cap, cur, e, _, hh, _⟩
  · subst e; cases hi
  · subst e; cases hi; exact ⟨cur, hh⟩
theorem nil_lit {w : World} (e s : Nat) : (w.alloc (.cells #[] e)).ownsRow w.heap.size e s (.slice (some ⟨w.heap.size, 0, none⟩) 0 0) 0 [] := by
  have := World.ownsRow_lit (base := w.heap.size) (e := e) (size := s) w #[] 0 (Nat.le_refl _) (by unfold maxLen; simp) (by simp)
  simpa using this
theorem blk_lt {w : World} {b : Nat} {o : Obj} (h : w.heap[b]? = some o) : b < w.heap.size := (Array.getElem?_eq_some_iff.1 h).1
theorem own_other {w : World} {B C n m s s' t t' : Nat} {v u : Value} {cs cs' : List Value} (h : w.ownsRow B t s v n cs) (h' : w.ownsRow C t' s' u m cs') (ht : t ≠ t') {i : Nat} (hi : v.ownBlock = some i) : ¬ u.ownBlock = some i := fun hb => by
  obtain ⟨cur, hc⟩ := own_kind h hi
  obtain ⟨cur', hc'⟩ := own_kind h' hb
  rw [hc] at hc'
  injection hc' with hc'
  injection hc' with _ hc' _
  exact ht hc'
theorem NOwn.keep {w w' : World} {B T S n : Nat} {v : Value} {es : List El} (h : NOwn w B T S v n es) {P : Nat → Prop} (hw : WrB P w w') (hp : ∀ i, NBl v es i → ¬ P i) : NOwn w' B T S v n es :=
  ⟨rr_owns_wr h.row hw (fun i hi => hp i (.inl hi)), h.len, h.wid, fun k a x hx => rr_owns_wr (h.dat k a x hx) hw (fun i hi => hp i (.inr ⟨k, a, x, hx, hi⟩)), h.far, h.off⟩
theorem own_box {w : World} {B t t' s n tb : Nat} {v : Value} {cs' : List Value} {cs : Array Value} (h : w.ownsRow B t s v n cs') (hb : w.heap[tb]? = some (.cells cs t' (0, 0))) (ht : t ≠ t') : ¬ v.ownBlock = some tb := fun e => by
  obtain ⟨cur, hc⟩ := own_kind h e
  rw [hb] at hc
  injection hc with hc
  injection hc with _ hc _
  exact ht hc.symm
theorem own_keep {w w' : World} {C s n b : Nat} {t t' : TypeId} {v : Value} {cs : List Value} {cb : Array Value} (h : w.ownsRow C t s v n cs) (hb : w.heap[b]? = some (.cells cb t' (0, 0))) (ht : t ≠ t') (hw : WrB (fun i => i = b) w w') : w'.ownsRow C t s v n cs :=
  rr_owns_wr h hw (fun i hi e => by subst e; exact own_box h hb ht hi)
theorem set1_wr (w : World) (b j : Nat) (v : Value) : WrB (fun i => i = b) w (w.setCell ⟨b, j, none⟩ v) := ⟨rfl, rfl, rfl, by simp [World.setCell], fun k _ hk => Below.heap_setCell _ _ _ _ hk⟩
theorem us_stepApp {P : Program} {ops : Array Oper} {o : Oper} {a : Act} {w : World} {K : Act → World → Prop} {Q : Exit → Act → World → Prop} {E : Prop}
    (hg : o.guard = none) (s x : Operand) (t : TypeId) (hop : o.op = Op.call { callee := Callee.builtin Builtin.append, args := #[s, x], argTypes := #[t, t] })
    (vs vx v' : Value) (w' : World) (hs : a.eval s = vs) (hx : a.eval x = vx) (hrun : (Builtin.append_ #[t, t] o.type #[vs, vx]).run P w = .ok v' w') (hK : K (a.put o.dst v') w') :
    if Region.wanted o (yielded ops a.tmps) = true then Oper.wp P o a w K Q else E := by
  have hw : Region.wanted o (yielded ops a.tmps) = true := by simp [Region.wanted, hg]
  rw [if_pos hw]
  unfold Oper.wp
  simp [execOp, hop, resolve, invoke, builtin, hs, hx, hrun, Result.andThen]
  exact hK
theorem us_sl {w : World} {B t s n : Nat} {v : Value} {cs : List Value} (h : w.ownsRow B t s v n cs) : ∃ a c, v = .slice a n c := by
  rcases h.2 with ⟨e, h0⟩ | ⟨g, cap, cur, e, _⟩
  · exact ⟨none, 0, by rw [e, h0]⟩
  · exact ⟨_, _, e⟩
/-- Rows that lie apart come into a record. -/
theorem NOwn.addAp {w : World} {B T S n : Nat} {v : Value} {es : List El} (h : NOwn w B T S v n es) {i : Nat} {e : El} {xs : List Sb} (hi : es[i]? = some e) (ho : ∀ x ∈ xs, w.ownsRow B x.t x.s x.v x.n x.cs) (hap : ∀ x ∈ xs, ∀ g, x.v.ownBlock = some g → ¬ NBl v es g)
    (hf : ∀ (a b : Nat) (x y : Sb), xs[a]? = some x → xs[b]? = some y → a ≠ b → ∀ g, x.v.ownBlock = some g → y.v.ownBlock ≠ some g) :
    NOwn w B T S v n (es.set i ⟨e.hd, xs⟩) := by
  have hil : i < es.length := (List.getElem?_eq_some_iff.1 hi).1
  have sb : ∀ k b y, sbAt (es.set i ⟨e.hd, xs⟩) k b = some y → (k = i ∧ xs[b]? = some y) ∨ (k ≠ i ∧ sbAt es k b = some y) := fun k b y hy => by
    rw [sbAt_set hil] at hy
    by_cases hk : k = i
    · subst hk; rw [if_pos rfl] at hy; exact .inl ⟨rfl, hy⟩
    · rw [if_neg hk] at hy; exact .inr ⟨hk, hy⟩
  have ap : ∀ (b : Nat) (y : Sb), xs[b]? = some y → ∀ (l d : Nat) (z : Sb), sbAt es l d = some z → ∀ g, y.v.ownBlock = some g → z.v.ownBlock ≠ some g := fun b y hy l d z hz g h1 h2 => hap y (List.mem_of_getElem? hy) g h1 (.inr ⟨l, d, z, hz, h2⟩)
  refine ⟨?_, by rw [List.length_set]; exact h.len, fun y hy => ?_, fun k b y hy => ?_, fun k l b d y z hy hz hne => ?_, fun k b y hy => ?_⟩
  · rw [fm_same es h.wid i e _ hi]
    exact h.row
  · rcases List.mem_or_eq_of_mem_set hy with hy | rfl
    · exact h.wid y hy
    · exact h.wid e (List.mem_of_getElem? hi)
  · rcases sb k b y hy with ⟨_, hy⟩ | ⟨_, hy⟩
    · exact ho y (List.mem_of_getElem? hy)
    · exact h.dat k b y hy
  · rcases sb k b y hy with ⟨hk, hy⟩ | ⟨hk, hy⟩
    · rcases sb l d z hz with ⟨hl, hz⟩ | ⟨hl, hz⟩
      · exact hf b d y z hy hz (by rcases hne with h | h; exact absurd (hk.trans hl.symm) h; exact h)
      · exact ap b y hy l d z hz
    · rcases sb l d z hz with ⟨hl, hz⟩ | ⟨hl, hz⟩
      · exact fun g h1 h2 => ap d z hz k b y hy g h2 h1
      · exact h.far k l b d y z hy hz hne
  · rcases sb k b y hy with ⟨_, hy⟩ | ⟨_, hy⟩
    · exact fun g h1 h2 => hap y (List.mem_of_getElem? hy) g h2 (.inl h1)
    · exact h.off k b y hy
end Go.Proofs.YtfajenejngddeaaGreat
