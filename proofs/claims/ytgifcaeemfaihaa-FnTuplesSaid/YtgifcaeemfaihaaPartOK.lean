/-
  The walks of partOK and l01Part, partsOK and l01Parts.
-/
import Derived.Test.YtgifcaeemfaihaaPartD
import Derived.Test.YtgifcaeemfaihaaFloatRank
set_option maxRecDepth 100000
namespace Go.Proofs.Ytgifcaeemfaihaa
open Go.RowKit
attribute [local go_sem] run_store_float

/-- A part is right. -/
def okD (d : PartD) : Bool :=
  if d.k = 1 then decide (d.f = 0) && d.t.toList.isEmpty
  else if d.k = 2 then decide (d.n = 0) && d.t.toList.isEmpty
  else if d.k = 3 then decide (d.n = 0) && decide (d.f = 0) && decide ((d.t.size : Int) ≤ 100)
  else false

set_option maxHeartbeats 1000000 in
theorem partOK_any (d : PartD) (w : World) (ht : d.t.size ≤ maxLen) :
    Calls Try.prog 75 #[pv d] w fun e w' => e = .returned (.bool (okD d)) ∧ Below w.heap.size w w' := by
  unfold maxLen at ht
  obtain ⟨k, n, f, t⟩ := d
  simp only at ht
  have hbits := run_bits f
  go_enter Try.func75, Try.ntmps75
  go_wp2
  all_goals go_ret
  all_goals exact ⟨ret_bool (by simp_all [okD]), (Below.refl _ _).alloc (Nat.le_refl _) _⟩
set_option maxHeartbeats 1000000 in
theorem l01Part_any (d : PartD) (w : World) (ht : d.t.size ≤ maxLen) :
    Calls Try.prog 78 #[pv d] w fun e w' => e = .returned (.bool (okD d)) ∧ Below w.heap.size w w' := by
  unfold maxLen at ht
  obtain ⟨k, n, f, t⟩ := d
  simp only at ht
  have hbits := run_bits f
  go_enter Try.func78, Try.ntmps78
  go_wp2
  all_goals go_ret
  all_goals exact ⟨ret_bool (by simp_all [okD]), (Below.refl _ _).alloc (Nat.le_refl _) _⟩

/-- Parts are right: at most six, each of them. -/
def oksD (ps : List PartD) : Bool := decide (ps.length ≤ 6) && ps.all okD
theorem oks_not {ps : List PartD} {k : Nat} (h : k < ps.length) (hb : okD ps[k] = false) : oksD ps = false := by
  have : ps.all okD = false := by rw [List.all_eq_false]; exact ⟨ps[k], List.getElem_mem h, by simp [hb]⟩
  simp [oksD, this]
theorem oks_step {ps : List PartD} {k : Nat} (h : k < ps.length) (ha : (ps.take k).all okD = true) (hb : okD ps[k] = true) : (ps.take (k + 1)).all okD = true := by
  rw [List.take_succ_eq_append_getElem h, List.all_append, ha]; simp [hb]

set_option maxHeartbeats 1000000 in
theorem l01Parts_any (a : Option Addr) (n c : Nat) (ps : List PartD) (w : World) (hn : n ≤ 1048576) (hr : PRow w a n ps) (ht : ∀ i (hi : i < ps.length), ps[i].t.size ≤ maxLen) :
    Calls Try.prog 52 #[.slice a n c] w fun e w' => e = .returned (.bool (oksD ps)) ∧ Below w.heap.size w w' := by
  have L := hide hr.1
  have R := hide hr.2
  have T := hide ht
  clear hr ht
  by_cases h6 : 6 < n
  · have E := hide (show oksD ps = false by simp [oksD]; rw [unhide L]; omega)
    go_enter Try.func52, Try.ntmps52
    go_wp2_with fail
    go_ret
    exact ⟨ret_bool (unhide E).symm, Below.refl _ _⟩
  have O := hide (show oksD ps = ps.all okD by simp [oksD]; intro _; rw [unhide L]; omega)
  go_enter Try.func52, Try.ntmps52
  go_wp2_with fail
  go_loopw [3] (fun i wr => ∃ k : Nat, k ≤ n ∧ i = .int .i64 k ∧ Hid ((ps.take k).all okD = true) ∧ Below w.heap.size w wr) (fun i _ => n - (intOf i).toNat)
  case atStart => exact ⟨0, by omega, rfl, rfl, Below.refl _ _⟩
  case round =>
    obtain ⟨k, hk, rfl, ha, hb⟩ := hrel
    by_cases hlt : k < n
    · have hk2 : k < ps.length := by rw [unhide L]; exact hlt
      obtain ⟨b, off, rfl, c0, c1, c2, c3⟩ := unhide R k hk2
      have hT := unhide T k hk2
      have hbl : b < w.heap.size := cell_lt c0
      have d0 := (hb.cell (p := ⟨b, off + k * 4, none⟩) hbl).trans c0
      have d1 := (hb.cell (p := ⟨b, off + k * 4 + 1, none⟩) hbl).trans c1
      have d2 := (hb.cell (p := ⟨b, off + k * 4 + 2, none⟩) hbl).trans c2
      have d3 := (hb.cell (p := ⟨b, off + k * 4 + 3, none⟩) hbl).trans c3
      have NO := hide (fun h => oks_not (ps := ps) (k := k) hk2 h)
      have ST := hide (fun h => oks_step (ps := ps) (k := k) hk2 (unhide ha) h)
      clear c0 c1 c2 c3
      generalize ps[k] = pd at *
      have hsz := hb.size
      go_wp2_with fail
      refine (l01Part_any pd wr hT).mono ?_
      rintro e w2 ⟨rfl, hb2⟩
      have bA := hb.trans (hb2.mono hsz)
      clear hb hb2 d0 d1 d2 d3
      cases ho : okD pd
      · have E := hide (unhide NO ho)
        clear ho
        go_wp2_with fail
        go_ret
        exact ⟨ret_bool (unhide E).symm, bA⟩
      · have E := hide (unhide ST ho)
        clear ho
        go_wp2_with fail
        go_roundw
        case rel => exact ⟨k + 1, by omega, by go_num, unhide E, bA⟩
        case measure => simp [intOf]; omega
    · obtain rfl : k = n := by omega
      have E := hide (show oksD ps = true by
        have h := unhide ha
        rw [List.take_of_length_le (by rw [unhide L]; exact Nat.le_refl _)] at h
        rw [unhide O]; exact h)
      go_wp2_with fail
      go_ret
      exact ⟨ret_bool (unhide E).symm, hb⟩

set_option maxHeartbeats 1000000 in
theorem partsOK_any (a : Option Addr) (n c : Nat) (ps : List PartD) (w : World) (hn : n ≤ 1048576) (hr : PRow w a n ps) (ht : ∀ i (hi : i < ps.length), ps[i].t.size ≤ maxLen) :
    Calls Try.prog 48 #[.slice a n c] w fun e w' => e = .returned (.bool (oksD ps)) ∧ Below w.heap.size w w' := by
  have L := hide hr.1
  have R := hide hr.2
  have T := hide ht
  clear hr ht
  by_cases h6 : 6 < n
  · have E := hide (show oksD ps = false by simp [oksD]; rw [unhide L]; omega)
    go_enter Try.func48, Try.ntmps48
    go_wp2_with fail
    go_ret
    exact ⟨ret_bool (unhide E).symm, Below.refl _ _⟩
  have O := hide (show oksD ps = ps.all okD by simp [oksD]; intro _; rw [unhide L]; omega)
  go_enter Try.func48, Try.ntmps48
  go_wp2_with fail
  go_loopw [4, 10] (fun _ i wr => ∃ k : Nat, k ≤ n ∧ i = .int .i64 k ∧ Hid ((ps.take k).all okD = true) ∧ Below w.heap.size w wr) (fun _ i _ => n - (intOf i).toNat)
  case atStart => exact ⟨0, by omega, rfl, rfl, Below.refl _ _⟩
  case round =>
    obtain ⟨k, hk, rfl, ha, hb⟩ := hrel
    by_cases hlt : k < n
    · have hk2 : k < ps.length := by rw [unhide L]; exact hlt
      obtain ⟨b, off, rfl, c0, c1, c2, c3⟩ := unhide R k hk2
      have hT := unhide T k hk2
      have hbl : b < w.heap.size := cell_lt c0
      have d0 := (hb.cell (p := ⟨b, off + k * 4, none⟩) hbl).trans c0
      have d1 := (hb.cell (p := ⟨b, off + k * 4 + 1, none⟩) hbl).trans c1
      have d2 := (hb.cell (p := ⟨b, off + k * 4 + 2, none⟩) hbl).trans c2
      have d3 := (hb.cell (p := ⟨b, off + k * 4 + 3, none⟩) hbl).trans c3
      have NO := hide (fun h => oks_not (ps := ps) (k := k) hk2 h)
      have ST := hide (fun h => oks_step (ps := ps) (k := k) hk2 (unhide ha) h)
      clear c0 c1 c2 c3
      generalize ps[k] = pd at *
      have hsz := hb.size
      go_wp2_with fail
      refine (partOK_any pd _ hT).mono ?_
      rintro e w2 ⟨rfl, hb2⟩
      have bA : Below w.heap.size w w2 := (hb.alloc hsz _).trans (hb2.mono (by simp; omega))
      clear hb hb2 d0 d1 d2 d3
      cases ho : okD pd
      · have E := hide (unhide NO ho)
        clear ho
        go_wp2_with fail
        go_ret
        exact ⟨ret_bool (unhide E).symm, bA⟩
      · have E := hide (unhide ST ho)
        clear ho
        go_wp2_with fail
        go_roundw
        case rel => exact ⟨k + 1, by omega, by go_num, unhide E, bA⟩
        case measure => simp [intOf]; omega
    · obtain rfl : k = n := by omega
      have E := hide (show oksD ps = true by
        have h := unhide ha
        rw [List.take_of_length_le (by rw [unhide L]; exact Nat.le_refl _)] at h
        rw [unhide O]; exact h)
      go_wp2_with fail
      go_ret
      exact ⟨ret_bool (unhide E).symm, hb⟩
end Go.Proofs.Ytgifcaeemfaihaa
