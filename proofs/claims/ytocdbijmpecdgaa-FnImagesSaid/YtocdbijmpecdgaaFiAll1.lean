/-
  StA, StC, CrashL, DevP, Kept, DevC, Crash, StX, Flash0, CrashS, ImplOK, CrashF, CrashI, LtR, Bits, Takes, ScB, LtS in one.
-/
import Derived.Test.YtocdbijmpecdgaaDevS
import Derived.Test.YtocdbijmpecdgaaWriteL
import Derived.Test.YtocdbijmpecdgaaBuf
import Derived.Test.YtocdbijmpecdgaaDevA
import Derived.Test.YtocdbijmpecdgaaReadD
import Derived.Test.YtocdbijmpecdgaaDevO
import Derived.Test.YtocdbijmpecdgaaBRow
import Derived.Deep.WholeRow
import Derived.Test.YtocdbijmpecdgaaSpecPut
import Derived.Deep.RegionLaw
import Derived.Test.YtocdbijmpecdgaaStP
import Derived.Test.YtocdbijmpecdgaaDevD
import Derived.Test.YtocdbijmpecdgaaFlashOK
import Derived.Test.YtocdbijmpecdgaaImC
import Derived.Test.YtocdbijmpecdgaaLtL
import Derived.Test.YtocdbijmpecdgaaBase
import Derived.Laws.BitsAllLaws
import Derived.Laws.Bits64
import Derived.Test.YtocdbijmpecdgaaRowB
import Derived.Deep.RegionHeld3
import Derived.Test.YtocdbijmpecdgaaScL
import Derived.Test.YtocdbijmpecdgaaWrT
import Derived.Test.YtocdbijmpecdgaaAppL
import Derived.Laws.AppendOwnNone
import Derived.Deep.Cut
namespace Go.Proofs.Ytocdbijmpecdgaa
open Go.RowKit Go.Maps

set_option maxHeartbeats 2000000 in
theorem sync_any (base p N : Nat) (S : DS) (w : World) (hD : Dev w base p N S) :
    Calls Try.prog 55 #[.pointer (some ⟨p, 0, none⟩)] w fun e w' => e = .returned (.tuple #[]) ∧ Dev w' base p N ⟨S.rc, S.rf, S.rc, S.rf, []⟩ ∧ Below base w w' := by
  obtain ⟨mh, mr, v, hd⟩ := hD
  have D0 := hd
  have hD := hide hd
  clear hd
  have k0 := D0.c0
  have k1 := D0.c1
  have k4 := D0.c4
  have hpr : p < w.heap.size := cell_lt D0.c0
  have HCL := hide (secs_clone_any p 2 mr N S.rc S.rf w D0.read D0.c2 D0.c3)
  clear D0
  go_enter Try.func55, Try.ntmps55
  go_wp2_with fail
  refine (unhide HCL).mono ?_
  rintro e w4 ⟨g, rfl, hg, hs4, hb4⟩
  have q0 := (hb4.cell (p := ⟨p, 0, none⟩) hpr).trans k0
  have q1 := (hb4.cell (p := ⟨p, 1, none⟩) hpr).trans k1
  have q4 := (hb4.cell (p := ⟨p, 4, none⟩) hpr).trans k4
  have f0 := (hb4.frozen (p := ⟨p, 0, none⟩) hpr).trans ((unhide hD).free 0)
  have f1 := (hb4.frozen (p := ⟨p, 1, none⟩) hpr).trans ((unhide hD).free 1)
  have f4 := (hb4.frozen (p := ⟨p, 4, none⟩) hpr).trans ((unhide hD).free 4)
  have R := hide ((unhide hD).synced hb4 hg hs4)
  clear hs4 hb4 k0 k1 k4 HCL
  go_wp2_with fail
  go_end0
  exact ⟨rfl, ⟨g, mr, _, (unhide R).1⟩, (unhide R).2⟩
set_option maxHeartbeats 1000000 in
theorem touched_any (at_ n : Nat) (w : World) (h : at_ + n ≤ 100000) :
    Calls Try.prog 102 #[.int .i64 (at_ : Int), .int .i64 (n : Int)] w fun e w' => e = .returned (.int .i64 ((touchN at_ n : Nat) : Int)) ∧ w' = w := by
  by_cases h0 : n = 0
  · subst h0
    go_enter Try.func102, Try.ntmps102
    go_wp2_with fail
    go_ret
    exact ⟨rfl, rfl⟩
  · have hn : ¬ ((n : Int) = 0) := by omega
    have hb : ((n : Int) == 0) = false := by simpa using hn
    have T := hide (show ((touchN at_ n : Nat) : Int) = ((at_ + n - 1) / 16 - at_ / 16 + 1 : Nat) by unfold touchN; rw [if_neg h0])
    have w1 : IntKind.i64.wrap ((at_ : Int) + (n : Int)) = (at_ : Int) + (n : Int) := by rw [IntKind.wrap_i64]; omega
    have w2 : IntKind.i64.wrap ((at_ : Int) + (n : Int) - 1) = (at_ : Int) + (n : Int) - 1 := by rw [IntKind.wrap_i64]; omega
    go_enter Try.func102, Try.ntmps102
    go_wp2_with fail
    go_ret
    exact ⟨ret_int (by rw [unhide T]; simp; omega), rfl⟩
end Go.Proofs.Ytocdbijmpecdgaa

namespace Go.Proofs.Ytocdbijmpecdgaa
open Go.RowKit

theorem sec_copy_at {w : World} {g b so o k : Nat} {fs s : List Int} (h : w.heap[g]? = some (.cells (fs.map (Value.int .u8)).toArray 125 (0, 0))) (hr : Row w (some ⟨b, so, none⟩) s.length s) (ho : o ≤ fs.length) (hk : k = min (fs.length - o) s.length) (dc sc : Nat) :
    ∃ w', (Builtin.copy_ #[22, 22] 3 #[.slice (some ⟨g, o, none⟩) (fs.length - o) dc, .slice (some ⟨b, so, none⟩) s.length sc]).run Try.prog w = .ok (.int .i64 (k : Int)) w' ∧ w'.heap[g]? = some (.cells ((fs.take o ++ s.take k ++ fs.drop (o + k)).map (Value.int .u8)).toArray 125 (0, 0)) ∧ Only g w w' := by
  have hl : (s.take k).length = k := by simp; omega
  have hc := run_copy_row (P := Try.prog) w 22 22 3 5 g o (fs.length - o) dc ⟨b, so, none⟩ s.length sc _ 125 ((s.take k).map (Value.int .u8)) Try.underlying22 u8_info h (by rw [List.length_map, hl, hk]; exact Nat.min_comm _ _) (fun j v hv => by
      have hj : j < k := by have := (List.getElem?_eq_some_iff.1 hv).1; simp at this; omega
      obtain ⟨b', off', e, hcell⟩ := hr.2 j (by omega)
      injection e with e
      injection e with e1 e2
      subst e1 e2
      rw [Addr.add_mid, hcell, ← hv]
      simp [List.getD, hj, show j < s.length by omega]) (by simp; omega) (all_u8 _)
  have hgo : goInt ((((s.take k).map (Value.int .u8)).length : Nat) : Int) = .int .i64 (k : Int) := by rw [List.length_map, hl]; rfl
  rw [hgo] at hc
  have e : ((fs.map (Value.int .u8)).toArray.toList.take o ++ (s.take k).map (Value.int .u8) ++ (fs.map (Value.int .u8)).toArray.toList.drop (o + ((s.take k).map (Value.int .u8)).length)).toArray = ((fs.take o ++ s.take k ++ fs.drop (o + k)).map (Value.int .u8)).toArray := by
    rw [List.length_map, hl]
    simp [List.map_drop, List.map_take]
  rw [e] at hc
  refine ⟨_, hc, setRow_heap _ _ _ _ _ _ h, ?_⟩
  refine ⟨rfl, rfl, rfl, by simp [World.setRow], fun i hi => ?_, fun a => ?_⟩
  · simp [World.setRow, Array.getElem?_modify, Ne.symm hi]
  · by_cases e : a.block = g
    · have h2 := setRow_heap w g _ (((fs.take o ++ s.take k ++ fs.drop (o + k)).map (Value.int .u8)).toArray) 125 (0, 0) h
      simp only [World.frozen?, e, h, h2]
    · have h2 : ∀ c', (w.setRow g c').heap[a.block]? = w.heap[a.block]? := fun c' => by simp [World.setRow, Array.getElem?_modify, Ne.symm e]
      simp only [World.frozen?, h2]
end Go.Proofs.Ytocdbijmpecdgaa

namespace Go.Proofs.Ytocdbijmpecdgaa
open Go.RowKit

/-- Those that wait whose flags are set. -/
def keptD : List WD → List Bool → List WD
  | d :: ws, k :: ks => if k = true then d :: keptD ws ks else keptD ws ks
  | _, _ => []
theorem keptD_nil (ws : List WD) : keptD ws [] = [] := by cases ws <;> rfl
theorem keptD_snoc : ∀ (ws : List WD) (ks : List Bool) (i : Nat) (h1 : i < ws.length) (h2 : i < ks.length), keptD (ws.take (i + 1)) (ks.take (i + 1)) = keptD (ws.take i) (ks.take i) ++ (if ks[i] = true then [ws[i]] else []) := by
  intro ws
  induction ws with
  | nil => intro ks i h1; simp at h1
  | cons d r ih =>
    intro ks i h1 h2
    cases ks with
    | nil => simp at h2
    | cons k ks =>
      cases i with
      | zero => cases k <;> simp [keptD, keptD_nil]
      | succ i =>
        have := ih ks i (by simpa using h1) (by simpa using h2)
        simp only [List.take_succ_cons, keptD, List.getElem_cons_succ]
        rw [this]
        cases k <;> simp
theorem keptD_min (ws : List WD) : ∀ (ks : List Bool), keptD (ws.take (min ws.length ks.length)) (ks.take (min ws.length ks.length)) = keptD ws ks := by
  induction ws with
  | nil => intro ks; cases ks <;> simp [keptD]
  | cons d r ih =>
    intro ks
    cases ks with
    | nil => simp [keptD]
    | cons k ks =>
      have e : min (d :: r).length (k :: ks).length = min r.length ks.length + 1 := by simp only [List.length_cons]; omega
      rw [e, List.take_succ_cons, List.take_succ_cons, keptD, keptD, ih ks]
theorem keptD_len (ws : List WD) : ∀ ks, (keptD ws ks).length ≤ ws.length := by
  induction ws with
  | nil => intro ks; cases ks <;> simp [keptD]
  | cons d r ih =>
    intro ks
    cases ks with
    | nil => simp [keptD]
    | cons k ks => have := ih ks; cases k <;> simp [keptD] <;> omega
theorem keptD_mem (ws : List WD) : ∀ ks, ∀ d ∈ keptD ws ks, d ∈ ws := by
  induction ws with
  | nil => intro ks d hd; cases ks <;> simp [keptD] at hd
  | cons e r ih =>
    intro ks d hd
    cases ks with
    | nil => simp [keptD] at hd
    | cons k ks =>
      cases k
      · simp [keptD] at hd; exact List.mem_cons_of_mem _ (ih ks d hd)
      · simp [keptD] at hd
        rcases hd with rfl | hd
        · exact List.mem_cons_self
        · exact List.mem_cons_of_mem _ (ih ks d hd)
/-- What is held behind k of the kept ones, the last of them torn. -/
def crAt (b : List Int) (l : List WD) (t k : Nat) : List Int := if h : k = l.length ∧ 0 < l.length then putD (readD b (l.take (k - 1))) (l[k - 1]'(by omega)) t else readD b (l.take k)
def crB (b : List Int) (l : List WD) (t : Nat) : List Int := crAt b l t l.length
theorem crAt_zero (b : List Int) (l : List WD) (t : Nat) : crAt b l t 0 = b := by
  unfold crAt
  rw [dif_neg (by omega)]; rfl
theorem crAt_mid (b : List Int) (l : List WD) (t k : Nat) (h : k + 1 < l.length) : crAt b l t (k + 1) = putD (crAt b l t k) l[k] 16 := by
  unfold crAt
  rw [dif_neg (by omega), dif_neg (by omega), readD_snoc b l k (by omega)]
theorem crAt_last (b : List Int) (l : List WD) (t k : Nat) (h : k + 1 = l.length) : crAt b l t (k + 1) = putD (crAt b l t k) (l[k]'(by omega)) t := by
  have e : crAt b l t k = readD b (l.take k) := by unfold crAt; rw [dif_neg (by omega)]
  rw [e]
  unfold crAt
  rw [dif_pos (by omega)]
  simp
/-- What a crash leaves of what is held. -/
def crashD (b : List Int) (ws : List WD) (ks : List Bool) (t : Nat) : List Int := crB b (keptD ws ks) t
/-- The last of the first k flags that is set; -1 if none is. -/
def lastI (ks : List Bool) : Nat → Int
  | 0 => -1
  | k + 1 => if ks.getD k false = true then (k : Int) else lastI ks k
theorem lastI_bd (ks : List Bool) (k : Nat) : -1 ≤ lastI ks k ∧ lastI ks k < k := by
  induction k with
  | zero => simp [lastI]
  | succ k ih =>
    simp only [lastI]
    split <;> omega
theorem keptD_none (ws : List WD) (ks : List Bool) (k : Nat) (h1 : k ≤ ws.length) (h2 : k ≤ ks.length) (h : lastI ks k = -1) : keptD (ws.take k) (ks.take k) = [] := by
  induction k with
  | zero => simp [keptD]
  | succ k ih =>
    simp only [lastI] at h
    split at h
    · omega
    · rename_i hf
      rw [keptD_snoc ws ks k (by omega) (by omega), ih (by omega) (by omega) h]
      have e : ks[k]'(by omega) = ks.getD k false := by simp [List.getD, show k < ks.length by omega]
      rw [e, if_neg hf]
      rfl
theorem keptD_last (ws : List WD) (ks : List Bool) (k j : Nat) (h1 : k ≤ ws.length) (h2 : k ≤ ks.length) (h : lastI ks k = (j : Int)) (hj : j < ws.length) : j < k ∧ ks.getD j false = true ∧ keptD (ws.take k) (ks.take k) = keptD (ws.take j) (ks.take j) ++ [ws[j]] := by
  induction k with
  | zero => exact absurd h (by simp [lastI])
  | succ k ih =>
    simp only [lastI] at h
    have e : ks[k]'(by omega) = ks.getD k false := by simp [List.getD, show k < ks.length by omega]
    split at h
    · rename_i hf
      obtain rfl : k = j := by omega
      refine ⟨by omega, hf, ?_⟩
      rw [keptD_snoc ws ks k (by omega) (by omega), e, if_pos hf]
    · rename_i hf
      obtain ⟨g1, g2, g3⟩ := ih (by omega) (by omega) h
      refine ⟨by omega, g2, ?_⟩
      rw [keptD_snoc ws ks k (by omega) (by omega), e, if_neg hf, List.append_nil, g3]
theorem crB_nil (b : List Int) (t : Nat) : crB b [] t = b := by
  unfold crB; exact crAt_zero b [] t
theorem crB_snoc (b : List Int) (K : List WD) (d : WD) (t : Nat) : crB b (K ++ [d]) t = putD (readD b K) d t := by
  unfold crB crAt
  rw [dif_pos ⟨rfl, by simp⟩]
  simp
theorem crashD_none {b : List Int} {ws : List WD} {ks : List Bool} {t : Nat} (h : lastI ks (min ws.length ks.length) = -1) : crashD b ws ks t = b := by
  unfold crashD
  rw [← keptD_min, keptD_none ws ks _ (by omega) (by omega) h, crB_nil]
theorem crashD_last {b : List Int} {ws : List WD} {ks : List Bool} {t j : Nat} (h : lastI ks (min ws.length ks.length) = (j : Int)) (hj : j < ws.length) : crashD b ws ks t = putD (readD b (keptD (ws.take j) (ks.take j))) ws[j] t := by
  unfold crashD
  rw [← keptD_min, (keptD_last ws ks _ j (by omega) (by omega) h hj).2.2, crB_snoc]
theorem readD_append (b : List Int) (l r : List WD) : readD b (l ++ r) = readD (readD b l) r := by unfold readD; rw [List.foldl_append]
end Go.Proofs.Ytocdbijmpecdgaa

namespace Go.Proofs.Ytocdbijmpecdgaa
open Go.RowKit Go.Maps

theorem dev_drew {w : World} {base p N : Nat} {S : DS} (h : Dev w base p N S) : Dev w.drew base p N S := by
  obtain ⟨mh, mr, v, hd⟩ := h
  exact ⟨mh, mr, v, hd.kept (fun _ _ _ => rfl)⟩
set_option maxRecDepth 100000 in
set_option maxHeartbeats 4000000 in
theorem deviceOf_any (ah : Option Addr) (m ch : Nat) (aw : Option Addr) (nw cw : Nat) (xs : List Int) (ws : List WD) (w : World) (hR : Row w ah (m * 16) xs) (hW : WRow w aw nw ws) (hch : m * 16 ≤ ch) (hch2 : ch ≤ maxLen) (h2 : m ≤ 128) (h3 : nw ≤ 4096) (hall : ∀ i (hi : i < ws.length), okW ws[i] = true) :
    Calls Try.prog 45 #[fv ah (m * 16) ch aw nw cw] w fun e w' => e = .returned (.pointer (some ⟨w.heap.size + 1 + 1, 0, none⟩)) ∧ Dev w' w.heap.size (w.heap.size + 1 + 1) 5000 (devDS xs m ws) ∧ Below w.heap.size w w' := by
  have HR := hide hR
  have HW := hide hW
  have HA := hide hall
  have hxl := hR.1
  clear hR hW hall
  have hmm := @run_makeMap Try.prog
  have hdiv : ((m : Int) * 16).tdiv 16 = (m : Int) := by rw [Int.tdiv_eq_ediv_of_nonneg (by omega)]; omega
  have L0 := hide (Laying.start (w := w) (ah := ah) (nh := m * 16) (ch := ch) (aw := aw) (nw := nw) (cw := cw) (xs := xs))
  go_enter Try.func45, Try.ntmps45
  go_wp2_with fail
  go_loopw [15] (fun i wr => ∃ k : Nat, k ≤ m ∧ i = .int .i64 k ∧ Hid (Laying w wr ah (m * 16) ch aw nw cw xs k)) (fun i _ => m - (intOf i).toNat)
  case atStart => exact ⟨0, Nat.zero_le _, rfl, unhide L0⟩
  case round =>
    clear hmm L0
    obtain ⟨k, hk, rfl, hL⟩ := hrel
    by_cases hlt : k < m
    · obtain ⟨bh, oh, rfl, _⟩ := (unhide HR).2 0 (by omega)
      obtain ⟨cs, hcs⟩ : ∃ cs, cs = ((secAt xs k).map (Value.int .u8)).toArray := ⟨_, rfl⟩
      have h16 := secAt_len hxl hlt
      have hsv : sv (secAt xs k) = .agg cs := by rw [hcs]; rfl
      have hz : cs.size = 16 := by rw [hcs]; simp [h16]
      have Y : ∀ j, j < 16 → wr.cell? ⟨bh, oh + k * 16 + j, none⟩ = cs[j]? := fun j hj => by
        obtain ⟨b', o', e, hc⟩ := (row_grow (unhide HR) (unhide hL).bel).2 (k * 16 + j) (by omega)
        injection e with e
        injection e with e1 e2
        subst e1 e2
        rw [Nat.add_assoc, hc, hcs]
        have h1 : k * 16 + j < xs.length := by omega
        simp [List.getD, h1, secAt, hj]
      have y0 : wr.cell? ⟨bh, oh + k * 16, none⟩ = some cs[0] := (Y 0 (by omega)).trans (Array.getElem?_eq_getElem (by omega))
      have y1 : wr.cell? ⟨bh, oh + k * 16 + 1, none⟩ = some cs[1] := (Y 1 (by omega)).trans (Array.getElem?_eq_getElem (by omega))
      have y2 : wr.cell? ⟨bh, oh + k * 16 + 2, none⟩ = some cs[2] := (Y 2 (by omega)).trans (Array.getElem?_eq_getElem (by omega))
      have y3 : wr.cell? ⟨bh, oh + k * 16 + 3, none⟩ = some cs[3] := (Y 3 (by omega)).trans (Array.getElem?_eq_getElem (by omega))
      have y4 : wr.cell? ⟨bh, oh + k * 16 + 4, none⟩ = some cs[4] := (Y 4 (by omega)).trans (Array.getElem?_eq_getElem (by omega))
      have y5 : wr.cell? ⟨bh, oh + k * 16 + 5, none⟩ = some cs[5] := (Y 5 (by omega)).trans (Array.getElem?_eq_getElem (by omega))
      have y6 : wr.cell? ⟨bh, oh + k * 16 + 6, none⟩ = some cs[6] := (Y 6 (by omega)).trans (Array.getElem?_eq_getElem (by omega))
      have y7 : wr.cell? ⟨bh, oh + k * 16 + 7, none⟩ = some cs[7] := (Y 7 (by omega)).trans (Array.getElem?_eq_getElem (by omega))
      have y8 : wr.cell? ⟨bh, oh + k * 16 + 8, none⟩ = some cs[8] := (Y 8 (by omega)).trans (Array.getElem?_eq_getElem (by omega))
      have y9 : wr.cell? ⟨bh, oh + k * 16 + 9, none⟩ = some cs[9] := (Y 9 (by omega)).trans (Array.getElem?_eq_getElem (by omega))
      have y10 : wr.cell? ⟨bh, oh + k * 16 + 10, none⟩ = some cs[10] := (Y 10 (by omega)).trans (Array.getElem?_eq_getElem (by omega))
      have y11 : wr.cell? ⟨bh, oh + k * 16 + 11, none⟩ = some cs[11] := (Y 11 (by omega)).trans (Array.getElem?_eq_getElem (by omega))
      have y12 : wr.cell? ⟨bh, oh + k * 16 + 12, none⟩ = some cs[12] := (Y 12 (by omega)).trans (Array.getElem?_eq_getElem (by omega))
      have y13 : wr.cell? ⟨bh, oh + k * 16 + 13, none⟩ = some cs[13] := (Y 13 (by omega)).trans (Array.getElem?_eq_getElem (by omega))
      have y14 : wr.cell? ⟨bh, oh + k * 16 + 14, none⟩ = some cs[14] := (Y 14 (by omega)).trans (Array.getElem?_eq_getElem (by omega))
      have y15 : wr.cell? ⟨bh, oh + k * 16 + 15, none⟩ = some cs[15] := (Y 15 (by omega)).trans (Array.getElem?_eq_getElem (by omega))
      have p0 := (unhide hL).p0
      have hA := fun (w : World) => run_arrayAt (P := Try.prog) (w := w) 125 5 16 (some ⟨bh, oh + k * 16, none⟩) 16 16 Try.underlying125 (Nat.le_refl _)
      have hP := put_any (w.heap.size + 1 + 1) 0 (w.heap.size + 1) k k k (secFn xs k) (secAt xs k) wr h16 (unhide hL).held (by unfold maxLen; omega) (by omega) (unhide hL).c0 (unhide hL).c1 ((unhide hL).free 0) (by omega)
      have hP2 := put_any (w.heap.size + 1 + 1) 0 (w.heap.size + 1) k k k (secFn xs k) (secAt xs k) wr.drew h16 (unhide hL).held (by unfold maxLen; omega) (by omega) (unhide hL).c0 (unhide hL).c1 ((unhide hL).free 0) (by omega)
      rw [hsv, show (Value.agg cs) = .agg #[cs[0], cs[1], cs[2], cs[3], cs[4], cs[5], cs[6], cs[7], cs[8], cs[9], cs[10], cs[11], cs[12], cs[13], cs[14], cs[15]] by rw [eta16 hz]] at hP hP2
      have HP := hide hP
      have HP2 := hide hP2
      clear hP hP2 hcs hsv Y
      go_wp2_with fail
      go_region_with (first
        | (go_at_call 90; (first | refine (sectorOf_any bh oh (m * 16) ch k wr.drew (by omega) hch hch2).mono ?_ | refine (sectorOf_any bh oh (m * 16) ch k wr (by omega) hch hch2).mono ?_); rintro e w3 ⟨rfl, rfl⟩)
        | (go_at_call 89; (first | refine (unhide HP2).mono ?_ | refine (unhide HP).mono ?_); rintro e w3 ⟨rfl, hm3, hc3, hp3⟩))
      all_goals
        have L3 := hide ((unhide hL).put hm3 hc3 ⟨hp3.os, hp3.tape, hp3.output, hp3.size, hp3.block, hp3.cell, hp3.frozen, hp3.kind⟩)
        clear hm3 hc3 hp3 hL
        go_wp2_with fail
        go_roundw
        case rel => exact ⟨k + 1, by omega, by go_num, unhide L3⟩
        case measure => simp [intOf]; omega
    · obtain rfl : k = m := by omega
      have c2 := (unhide hL).c2
      have c3 := (unhide hL).c3
      have f2 := (unhide hL).free 2
      have f3 := (unhide hL).free 3
      have hsz := (unhide hL).size
      go_wp2_with fail
      refine (secs_clone_any (w.heap.size + 1 + 1) 0 (w.heap.size + 1) k k (secFn xs k) wr (unhide hL).held (unhide hL).c0 (unhide hL).c1).mono ?_
      rintro e w4 ⟨g, rfl, hg, hs4, hb4⟩
      have d2 := (hb4.cell (p := ⟨w.heap.size + 1 + 1, 2, none⟩) hsz).trans c2
      have d3 := (hb4.cell (p := ⟨w.heap.size + 1 + 1, 3, none⟩) hsz).trans c3
      have g2 := (hb4.frozen (p := ⟨w.heap.size + 1 + 1, 2, none⟩) hsz).trans f2
      have g3 := (hb4.frozen (p := ⟨w.heap.size + 1 + 1, 3, none⟩) hsz).trans f3
      have q1 : w4.cell? ⟨w.heap.size, 1, none⟩ = some (.slice aw nw cw) := (hb4.cell (p := ⟨w.heap.size, 1, none⟩) (by simp; omega)).trans (unhide hL).p1
      have D5 := hide ((unhide hL).cloned hxl h2 hb4 hg hs4)
      have hs5 : w.heap.size + 1 + 1 < w4.heap.size := Nat.lt_of_lt_of_le hsz hb4.size
      clear c2 c3 f2 f3 hg hs4 hb4 hL hdiv hsz
      go_wp2_with fail
      clear d2 d3 g2 g3
      obtain ⟨w5, hw5⟩ : ∃ w5, w5 = (w4.setCell ⟨w.heap.size + 1 + 1, 2, none⟩ (.int .i64 (k : Int))).setCell ⟨w.heap.size + 1 + 1, 3, none⟩ (.map (some g)) := ⟨_, rfl⟩
      rw [← hw5] at D5 ⊢
      clear hw5 q1 hs5
      go_loopw [40] (fun i wr => ∃ k2 : Nat, k2 ≤ nw ∧ i = .int .i64 k2 ∧ Hid (Dev wr w.heap.size (w.heap.size + 1 + 1) (k + k2) (devDS xs k (ws.take k2))) ∧ Below w.heap.size w wr) (fun i _ => nw - (intOf i).toNat)
      case atStart => exact ⟨0, Nat.zero_le _, rfl, ⟨_, _, _, by rw [List.take_zero]; exact (unhide D5).1⟩, (unhide D5).2⟩
      case round =>
        clear D5
        obtain ⟨k2, hk2, rfl, hD, hb⟩ := hrel
        have hwl := (unhide HW).1
        by_cases hlt : k2 < nw
        · have hk3 : k2 < ws.length := by omega
          obtain ⟨bw, ow, rfl, e0, ad, cd, e1, _, rd⟩ := ((unhide HW).below hb).2 k2 hk3
          obtain ⟨n, s, hpd, hn, h16⟩ := okW_form (unhide HA k2 hk3)
          have hstep := devDS_snoc xs k ws k2 hk3
          rw [hpd] at e0 e1 rd hstep
          simp only at e0 e1 rd
          rw [h16] at e1 rd
          obtain ⟨bd, od, rfl, _⟩ := rd.2 0 (by omega)
          obtain ⟨cs, hcs⟩ : ∃ cs, cs = (s.map (Value.int .u8)).toArray := ⟨_, rfl⟩
          have hsv : sv s = .agg cs := by rw [hcs]; rfl
          have hz : cs.size = 16 := by rw [hcs]; simp [h16]
          have hsz := hb.size
          obtain ⟨wx, hwx⟩ : ∃ wx, wx = wr.alloc (.cells #[.int .i64 (n : Int), .slice (some ⟨bd, od, none⟩) 16 cd] 129) := ⟨_, rfl⟩
          have hbx : Below wr.heap.size wr wx := by rw [hwx]; exact (Below.refl _ _).alloc (Nat.le_refl _) _
          have Y : ∀ j, j < 16 → wx.cell? ⟨bd, od + j, none⟩ = cs[j]? := fun j hj => by
            obtain ⟨b', o', e, hc⟩ := (row_grow rd hbx).2 j hj
            injection e with e
            injection e with e1 e2
            subst e1 e2
            rw [hc, hcs]
            have h2 : j < s.length := by omega
            simp [List.getD, h2]
          have y0 : wx.cell? ⟨bd, od, none⟩ = some cs[0] := (Y 0 (by omega)).trans (Array.getElem?_eq_getElem (by omega))
          have y1 : wx.cell? ⟨bd, od + 1, none⟩ = some cs[1] := (Y 1 (by omega)).trans (Array.getElem?_eq_getElem (by omega))
          have y2 : wx.cell? ⟨bd, od + 2, none⟩ = some cs[2] := (Y 2 (by omega)).trans (Array.getElem?_eq_getElem (by omega))
          have y3 : wx.cell? ⟨bd, od + 3, none⟩ = some cs[3] := (Y 3 (by omega)).trans (Array.getElem?_eq_getElem (by omega))
          have y4 : wx.cell? ⟨bd, od + 4, none⟩ = some cs[4] := (Y 4 (by omega)).trans (Array.getElem?_eq_getElem (by omega))
          have y5 : wx.cell? ⟨bd, od + 5, none⟩ = some cs[5] := (Y 5 (by omega)).trans (Array.getElem?_eq_getElem (by omega))
          have y6 : wx.cell? ⟨bd, od + 6, none⟩ = some cs[6] := (Y 6 (by omega)).trans (Array.getElem?_eq_getElem (by omega))
          have y7 : wx.cell? ⟨bd, od + 7, none⟩ = some cs[7] := (Y 7 (by omega)).trans (Array.getElem?_eq_getElem (by omega))
          have y8 : wx.cell? ⟨bd, od + 8, none⟩ = some cs[8] := (Y 8 (by omega)).trans (Array.getElem?_eq_getElem (by omega))
          have y9 : wx.cell? ⟨bd, od + 9, none⟩ = some cs[9] := (Y 9 (by omega)).trans (Array.getElem?_eq_getElem (by omega))
          have y10 : wx.cell? ⟨bd, od + 10, none⟩ = some cs[10] := (Y 10 (by omega)).trans (Array.getElem?_eq_getElem (by omega))
          have y11 : wx.cell? ⟨bd, od + 11, none⟩ = some cs[11] := (Y 11 (by omega)).trans (Array.getElem?_eq_getElem (by omega))
          have y12 : wx.cell? ⟨bd, od + 12, none⟩ = some cs[12] := (Y 12 (by omega)).trans (Array.getElem?_eq_getElem (by omega))
          have y13 : wx.cell? ⟨bd, od + 13, none⟩ = some cs[13] := (Y 13 (by omega)).trans (Array.getElem?_eq_getElem (by omega))
          have y14 : wx.cell? ⟨bd, od + 14, none⟩ = some cs[14] := (Y 14 (by omega)).trans (Array.getElem?_eq_getElem (by omega))
          have y15 : wx.cell? ⟨bd, od + 15, none⟩ = some cs[15] := (Y 15 (by omega)).trans (Array.getElem?_eq_getElem (by omega))
          have x0 : wx.cell? ⟨wr.heap.size, 0, none⟩ = some (.int .i64 (n : Int)) := by rw [hwx]; exact (cell_new rfl).trans rfl
          have x1 : wx.cell? ⟨wr.heap.size, 1, none⟩ = some (.slice (some ⟨bd, od, none⟩) 16 cd) := by rw [hwx]; exact (cell_new rfl).trans rfl
          have hA := fun (w : World) => run_arrayAt (P := Try.prog) (w := w) 125 5 16 (some ⟨bd, od, none⟩) 16 cd Try.underlying125 (Nat.le_refl _)
          have hDx : Dev wx w.heap.size (w.heap.size + 1 + 1) (k + k2) (devDS xs k (ws.take k2)) := by
            obtain ⟨mh, mr, v, hd⟩ := unhide hD
            exact ⟨mh, mr, v, hd.below hbx⟩
          have hP := fun (x : World) (hx : Dev x w.heap.size (w.heap.size + 1 + 1) (k + k2) (devDS xs k (ws.take k2))) => wait_any w.heap.size (w.heap.size + 1 + 1) (k + k2) n (devDS xs k (ws.take k2)) s x hx (by unfold maxLen; omega) (by rw [(devDS_ws xs k (ws.take k2)).1, List.length_take]; omega) h16 hn
          rw [hsv, show (Value.agg cs) = .agg #[cs[0], cs[1], cs[2], cs[3], cs[4], cs[5], cs[6], cs[7], cs[8], cs[9], cs[10], cs[11], cs[12], cs[13], cs[14], cs[15]] by rw [eta16 hz]] at hP
          have HP := hide hP
          have HD := hide hDx
          have HB := hide (hb.trans (hbx.mono hsz))
          have hstep2 : devDS xs k (ws.take (k2 + 1)) = { devDS xs k (ws.take k2) with rc := max (devDS xs k (ws.take k2)).rc (n + 1), rf := updS (devDS xs k (ws.take k2)).rf n s, ws := (devDS xs k (ws.take k2)).ws ++ [⟨n, s⟩] } := by
            rw [hstep]; rfl
          have HS := hide hstep2
          clear hP hDx hbx hcs hsv Y rd hstep hstep2 hpd hb hD
          go_wp2_with fail
          rw [← hwx]
          clear hwx e0 e1
          go_region_with (go_at_call 92; (first | refine (unhide HP wx.drew (dev_drew (unhide HD))).mono ?_ | refine (unhide HP wx (unhide HD)).mono ?_); rintro e w6 ⟨rfl, hd6, hb6⟩)
          all_goals
            have D6 := hide (show Dev w6 w.heap.size (w.heap.size + 1 + 1) (k + (k2 + 1)) (devDS xs k (ws.take (k2 + 1))) by rw [unhide HS]; exact hd6)
            have B6 := hide (show Below w.heap.size w w6 from (unhide HB).trans ⟨hb6.os, hb6.tape, hb6.output, hb6.size, hb6.block⟩)
            clear hd6 hb6 HD HB HS HP
            go_wp2_with fail
            go_roundw
            case rel => exact ⟨k2 + 1, by omega, by go_num, unhide D6, unhide B6⟩
            case measure => simp [intOf]; omega
        · obtain rfl : k2 = nw := by omega
          go_wp2_with fail
          go_ret
          refine ⟨rfl, ?_, hb⟩
          obtain ⟨mh, mr, v, hd⟩ := unhide hD
          rw [List.take_of_length_le (by omega)] at hd
          exact ⟨mh, mr, v, hd.mono (by omega)⟩
end Go.Proofs.Ytocdbijmpecdgaa

namespace Go.Proofs.Ytocdbijmpecdgaa
open Go.RowKit Go.Maps

/-- The row of those that wait, with its address where there is one. -/
theorem wait_form {w : World} {base n : Nat} {v : Value} {xs : List Value} (h : w.ownsRow base 131 17 v n xs) : (v = .slice none 0 0 ∧ n = 0) ∨ ∃ g cap, v = .slice (some ⟨g, 0, none⟩) n cap ∧ n ≤ cap ∧ cap ≤ maxLen ∧ g < w.heap.size ∧ ∀ j, j < n * 17 → w.cell? ⟨g, j, none⟩ = xs[j]? := by
  rcases h.2 with ⟨e, hn⟩ | ⟨g, cap, cur, e, hb, hh, hc, hm, r⟩
  · exact .inl ⟨e, hn⟩
  · subst e
    exact .inr ⟨g, cap, rfl, hc, hm, (Array.getElem?_eq_some_iff.1 hh).1, fun j hj => h.cellAt j hj⟩
theorem ws_info : (Try.prog.info? 131).map (·.size) = some 17 := by kernel_rfl
theorem wcells_len {d : WD} (h : d.xs.length = 16) : (wcells d).length = 17 := by simp [wcells, h]
theorem allCells_at : ∀ (l : List WD) (k : Nat) (hk : k < l.length), (∀ d ∈ l, d.xs.length = 16) → ∀ j, j < 17 → (allCells l)[k * 17 + j]? = (wcells l[k])[j]? := by
  intro l
  induction l with
  | nil => intro k hk; simp at hk
  | cons d r ih =>
    intro k hk h j hj
    have hd := wcells_len (h d List.mem_cons_self)
    have e : allCells (d :: r) = wcells d ++ allCells r := by simp [allCells]
    rw [e]
    cases k with
    | zero => rw [List.getElem?_append_left (by omega)]; simp
    | succ k =>
      rw [List.getElem?_append_right (by omega), hd, show (k + 1) * 17 + j - 17 = k * 17 + j by omega]
      exact ih k (by simpa using hk) (fun d hd => h d (List.mem_cons_of_mem _ hd)) j hj
/-- The cells of a sector that waits. -/
theorem ws_range {w : World} {g k : Nat} {l : List WD} (hc : ∀ j, j < l.length * 17 → w.cell? ⟨g, j, none⟩ = (allCells l)[j]?) (hk : k < l.length) (h16 : ∀ d ∈ l, d.xs.length = 16) : w.rangeAt g (k * 17) (wcells l[k]) := by
  have hl := wcells_len (h16 l[k] (List.getElem_mem hk))
  intro j v hv
  have hj : j < 17 := by have := (List.getElem?_eq_some_iff.1 hv).1; omega
  rw [hc _ (by omega), allCells_at l k hk h16 j hj]
  exact hv
theorem fold_set : ∀ (cs : List Value) (k : Nat) (z : Array Value), (List.foldl (fun a x => a.setIfInBounds x.snd x.fst) z (cs.zipIdx k)).size = z.size ∧ ∀ i, (List.foldl (fun a x => a.setIfInBounds x.snd x.fst) z (cs.zipIdx k))[i]? = if k ≤ i ∧ i < k + cs.length ∧ i < z.size then cs[i - k]? else z[i]? := by
  intro cs
  induction cs with
  | nil => intro k z; exact ⟨rfl, fun i => by rw [if_neg (by simp; omega)]; rfl⟩
  | cons c r ih =>
    intro k z
    obtain ⟨h1, h2⟩ := ih (k + 1) (z.setIfInBounds k c)
    simp only [List.zipIdx_cons, List.foldl_cons]
    refine ⟨by rw [h1]; simp, fun i => ?_⟩
    rw [h2 i]
    simp only [Array.size_setIfInBounds, List.length_cons]
    by_cases hi : k + 1 ≤ i ∧ i < k + 1 + r.length ∧ i < z.size
    · rw [if_pos hi, if_pos (by omega), show i - k = i - (k + 1) + 1 by omega, List.getElem?_cons_succ]
    · rw [if_neg hi, Array.getElem?_setIfInBounds]
      by_cases e : k = i
      · subst e
        by_cases hz : k < z.size
        · rw [if_pos rfl, if_pos hz, if_pos (by omega)]; simp
        · rw [if_pos rfl, if_neg hz, if_neg (by omega), Array.getElem?_eq_none (by omega)]
      · rw [if_neg e, if_neg (by omega)]
/-- A literal of one sector that waits, as it is laid. -/
theorem fold17 (cs : List Value) (h : cs.length = 17) : List.foldl (fun cs x => cs.setIfInBounds x.snd x.fst) #[Value.int .i64 0, Value.int .u8 0, Value.int .u8 0, Value.int .u8 0, Value.int .u8 0, Value.int .u8 0, Value.int .u8 0, Value.int .u8 0, Value.int .u8 0, Value.int .u8 0, Value.int .u8 0, Value.int .u8 0, Value.int .u8 0, Value.int .u8 0, Value.int .u8 0, Value.int .u8 0, Value.int .u8 0] cs.zipIdx = cs.toArray := by
  obtain ⟨h1, h2⟩ := fold_set cs 0 #[Value.int .i64 0, Value.int .u8 0, Value.int .u8 0, Value.int .u8 0, Value.int .u8 0, Value.int .u8 0, Value.int .u8 0, Value.int .u8 0, Value.int .u8 0, Value.int .u8 0, Value.int .u8 0, Value.int .u8 0, Value.int .u8 0, Value.int .u8 0, Value.int .u8 0, Value.int .u8 0, Value.int .u8 0]
  apply Array.ext_getElem?
  intro i
  rw [h2 i]
  by_cases hi : i < 17
  · rw [if_pos (by simp; omega)]; simp
  · rw [if_neg (by simp; omega), Array.getElem?_eq_none (by simp; omega), List.getElem?_toArray, List.getElem?_eq_none (by omega)]
set_option maxRecDepth 100000 in
set_option maxHeartbeats 2000000 in
theorem kept_any (base p N : Nat) (S : DS) (ak : Option Addr) (nk ck : Nat) (ks : List Bool) (w : World) (hD : Dev w base p N S) (hw : S.ws.length ≤ 4096) (hB : BRow w ak nk ks) (hk : nk ≤ 1048576) :
    Calls Try.prog 118 #[.pointer (some ⟨p, 0, none⟩), .slice ak nk ck] w fun e w' => ∃ v, e = .returned v ∧ w'.ownsRow w.heap.size 131 17 v (keptD S.ws ks).length (allCells (keptD S.ws ks)) ∧ Below w.heap.size w w' := by
  obtain ⟨mh, mr, v, hd⟩ := hD
  obtain ⟨i0, hi, hz0, hz1, hz2⟩ := info_parts Try.infoWS
  have c4 := hd.c4
  have hpl : p < w.heap.size := cell_lt hd.c0
  rcases wait_form hd.wait with ⟨rfl, hn0⟩ | ⟨g, cap, rfl, hc1, hc2, hgl, hcells⟩
  · have HK := hide (show keptD S.ws ks = [] by
      have h0 : S.ws = [] := List.eq_nil_of_length_eq_zero hn0
      rw [h0]; cases ks <;> rfl)
    clear hd hB
    go_enter Try.func118, Try.ntmps118
    go_wp2_with fail
    all_goals
      refine wp_loop_rounds 1 ?_
      rw [rounds_succ]
      go_wp2_with fail
      go_ret
      exact ⟨_, rfl, by rw [unhide HK]; exact ⟨rfl, .inl ⟨rfl, rfl⟩⟩, Below.refl _ _⟩
  · have HD := hide hd
    have HB := hide hB
    have HCE := hide hcells
    unfold maxLen at hc2
    clear hd hB hcells
    go_enter Try.func118, Try.ntmps118
    go_wp2_with fail
    all_goals
      go_loopw [5, 15] (fun v i wr => ∃ k : Nat, k ≤ S.ws.length ∧ k ≤ nk ∧ i = .int .i64 k ∧ Hid (wr.ownsRow w.heap.size 131 17 v (keptD (S.ws.take k) (ks.take k)).length (allCells (keptD (S.ws.take k) (ks.take k)))) ∧ Below w.heap.size w wr) (fun _ i _ => nk - (intOf i).toNat)
      case atStart => exact ⟨0, Nat.zero_le _, Nat.zero_le _, rfl, ⟨by simp [keptD, allCells], .inl ⟨rfl, by simp [keptD]⟩⟩, Below.refl _ _⟩
      case round =>
        obtain ⟨k, hk1, hk2, rfl, hO, hb⟩ := hrel
        have hkl := hide (unhide HB).1
        by_cases hlt : k < S.ws.length ∧ k < nk
        · obtain ⟨hlt1, hlt2⟩ := hlt
          obtain ⟨bk, ok, rfl, ek⟩ := ((unhide HB).grow hb).2 k hlt2
          have SN := hide (keptD_snoc S.ws ks k hlt1 (by rw [unhide hkl]; exact hlt2))
          have eg : ks[k]'(by rw [unhide hkl]; exact hlt2) = ks.getD k false := by simp [List.getD, show k < ks.length by rw [unhide hkl]; exact hlt2]
          rw [eg] at SN
          have d4 := (hb.cell (p := ⟨p, 4, none⟩) hpl).trans c4
          by_cases hf : ks.getD k false = true
          · rw [hf] at ek SN
            have hrg := ws_range (w := wr) (l := S.ws) (fun j hj => (hb.cell (p := ⟨g, j, none⟩) hgl).trans (unhide HCE j hj)) hlt1 (fun d hd => ((unhide HD).wok d hd).2.2)
            have hl17 := wcells_len ((unhide HD).wok _ (List.getElem_mem hlt1)).2.2
            have h1c := wcells_one S.ws[k]
            have AS := hide (allCells_snoc (keptD (S.ws.take k) (ks.take k)) S.ws[k])
            have HRG := hide hrg
            have HI := hide (show (Try.prog.info? 131).map (·.size) = some (wcells S.ws[k]).length by rw [ws_info, hl17])
            clear hf eg hrg
            generalize wcells S.ws[k] = cs at *
            have hfo := fold17 cs hl17
            have HL := hide hl17
            have H1 := hide h1c
            clear h1c
            have hsz := hb.size
            have hlk : (keptD (S.ws.take k) (ks.take k)).length ≤ 4096 := by have := keptD_len (S.ws.take k) (ks.take k); have h2 : (S.ws.take k).length ≤ k := List.length_take_le _ _; omega
            generalize keptD (S.ws.take k) (ks.take k) = ds at *
            go_wp2_with (first | (at_builtin; refine wpList_append_own _ rfl _ _ 89 rfl w.heap.size 131 i0 _ 17 24 Try.underlying89 hi hz0 hz1 hz2 rfl (by decide) _ ds.length (allCells ds) rfl (World.ownsRow.alloc (unhide hO) _) ⟨wr.heap.size, 0, none⟩ 1 1 cs rfl (unhide HL) cells_new (unhide H1) (by unfold maxLen; omega) (by omega) (by simp; omega) ?_) | (refine wpList_load_mid rfl 131 _ rfl g (k * 17) rfl cs _ (unhide HRG) Try.underlying131 rfl (unhide HI) ?_))
            intro v2 w2 hown2 hgrow2 _
            have O2 := hide (show w2.ownsRow w.heap.size 131 17 v2 (keptD (S.ws.take (k + 1)) (ks.take (k + 1))).length (allCells (keptD (S.ws.take (k + 1)) (ks.take (k + 1)))) by
              have e := unhide SN
              simp only [if_true] at e
              rw [e, unhide AS, List.length_append]
              exact hown2)
            have B2 := hide ((hb.alloc hsz _).grown hgrow2 (by simp; omega) (fun k hk => ((unhide hO).lt k hk).1))
            clear hown2 hgrow2 hO hfo
            go_wp2_with fail
            go_roundw
            case rel => exact ⟨k + 1, by omega, by omega, by go_num, unhide O2, unhide B2⟩
            case measure => simp [intOf]; omega
          · have hf : ks.getD k false = false := by simpa using hf
            rw [hf] at ek SN
            have O2 := hide (show wr.ownsRow w.heap.size 131 17 u5 (keptD (S.ws.take (k + 1)) (ks.take (k + 1))).length (allCells (keptD (S.ws.take (k + 1)) (ks.take (k + 1)))) by
              have e := unhide SN
              simp only [Bool.false_eq_true, if_false, List.append_nil] at e
              rw [e]
              exact unhide hO)
            clear hf eg SN hO
            go_wp2_with fail
            go_roundw
            case rel => exact ⟨k + 1, by omega, by omega, by go_num, unhide O2, hb⟩
            case measure => simp [intOf]; omega
        · have hmin : k = min S.ws.length ks.length := by rw [unhide hkl]; omega
          have O2 := hide (show wr.ownsRow w.heap.size 131 17 u5 (keptD S.ws ks).length (allCells (keptD S.ws ks)) by
            have := unhide hO
            rw [hmin, keptD_min] at this
            exact this)
          have hlt3 : nk ≤ k ∨ S.ws.length ≤ k := by omega
          clear hO hmin hlt
          go_wp2_with fail
          go_ret
          exact ⟨_, rfl, unhide O2, hb⟩
end Go.Proofs.Ytocdbijmpecdgaa

namespace Go.Proofs.Ytocdbijmpecdgaa
open Go.RowKit Go.Maps

/-- The law of a sector that is laid into the box that was made last. -/
theorem wpList_box (w : World) {ops : Array Oper} {rest : List Oper} {o : Oper} {a : Act} {Q : Exit → Act → World → Prop} (hg : o.guard = none) (x y : Operand) (hop : o.op = Op.store 125 x y) (c c' : Array Value)
    (hx : a.eval x = .pointer (some ⟨w.heap.size, 0, none⟩)) (hy : a.eval y = .agg c') (hc : c.size = 16) (hc' : c'.size = 16) (h1 : c'.all (·.oneCell') = true)
    (hK : wpList Try.prog ops Q rest (a.put o.dst undef) (w.alloc (.cells c' 125))) : wpList Try.prog ops Q (o :: rest) a (w.alloc (.cells c 125)) := by
  refine wpList_plain hg fun K' hK' => ?_
  have hrun := run_storeAt_new (P := Try.prog) w 125 c c' (by rw [sec_info, hc']) (by rw [hc, hc']) h1
  unfold Oper.wp
  simp [execOp, hop, hx, hy, hrun, Result.andThen]
  exact hK' _ _ hK
theorem sec_one (s : List Int) : ((s.map (Value.int .u8)).toArray).all (·.oneCell') = true := all_oneCell_toArray (all_u8 s)
theorem secBytes_step (c k : Nat) (f : Nat → List Int) (h : ∀ i, (f i).length = 16) (hk : k < c) : putB (secBytes k f ++ List.replicate ((c - k) * 16) 0) (k * 16) (f k) = secBytes (k + 1) f ++ List.replicate ((c - (k + 1)) * 16) 0 := by
  have hl := secBytes_len f h k
  have e : secBytes (k + 1) f = secBytes k f ++ f k := by
    unfold secBytes
    rw [List.range_succ, List.flatMap_append]; simp
  unfold putB
  rw [e, List.take_append_of_le_length (by omega), List.take_of_length_le (by omega), h k, List.drop_append, List.drop_eq_nil_of_le (by omega), List.nil_append, hl, List.drop_replicate]
  congr 2
  omega
set_option maxRecDepth 100000 in
set_option maxHeartbeats 2000000 in
theorem bytes_any (p o m N c : Nat) (f : Nat → List Int) (w : World) (hm : SecMap w m N f) (h16 : ∀ i, (f i).length = 16) (hc : c ≤ 128) (c0 : w.cell? ⟨p, o, none⟩ = some (.int .i64 (c : Int))) (c1 : w.cell? ⟨p, o + 1, none⟩ = some (.map (some m))) :
    Calls Try.prog 51 #[.pointer (some ⟨p, o, none⟩)] w fun e w' => e = .returned (.slice (some ⟨w.heap.size, 0, none⟩) (c * 16) (c * 16)) ∧ Mine w' w.heap.size (.slice (some ⟨w.heap.size, 0, none⟩) (c * 16) (c * 16)) (secBytes c f) ∧ Below w.heap.size w w' := by
  obtain ⟨i0, hi, hz0, hz1, hz2⟩ := info_parts Try.infoU8
  have hl : p < w.heap.size := cell_lt c0
  have HM := hide hm
  have H16 := hide h16
  clear hm h16
  go_enter Try.func51, Try.ntmps51
  go_wp2_with (at_make; refine wpList_make_full _ rfl _ _ 22 rfl w.heap.size 5 i0 (.int .u8 0) 1 Try.underlying22 hi hz0 hz1 _ _ _ _ (c * 16) rfl rfl (by go_num) rfl (by rw [hz2]; omega) (by unfold maxLen; omega) (Nat.le_refl _) ?_)
  intro w1 hown hgrow
  rw [toList_madeCells_one] at hown
  have hbel : Below w.heap.size w w1 := (Below.refl _ _).grown hgrow (Nat.le_refl _) (fun k hk => by cases hk)
  have hB := buf_made hown
  clear hown hgrow
  have d0 := (hbel.cell (p := ⟨p, o, none⟩) hl).trans c0
  go_wp2_with fail
  clear d0 c0
  go_loopw [16] (fun i wr => ∃ k : Nat, k ≤ c ∧ i = .int .i64 k ∧ Hid (Buf wr w.heap.size (secBytes k f ++ List.replicate ((c - k) * 16) 0)) ∧ Below w.heap.size w wr) (fun i _ => c - (intOf i).toNat)
  case atStart => exact ⟨0, Nat.zero_le _, rfl, hB, hbel⟩
  case round =>
    clear hB hbel
    obtain ⟨k, hk, rfl, hB, hb⟩ := hrel
    by_cases hlt : k < c
    · have d1 := (hb.cell (p := ⟨p, o + 1, none⟩) hl).trans c1
      have hmr : SecMap wr m N f := (unhide HM).below hb (unhide HM).lt
      have hk16 := unhide H16 k
      have hsz := hb.size
      have hgl := (unhide hB).lt
      go_wp2_with (first
        | (at_lookup; refine wpList_lookup_sec _ rfl _ _ rfl m N f k rfl rfl hmr (by omega) ?_)
        | (refine wpList_box _ rfl _ _ rfl _ ((f k).map (Value.int .u8)).toArray rfl rfl rfl (by simp [hk16]) (sec_one _) ?_))
      obtain ⟨wx, hwx⟩ : ∃ wx, wx = wr.alloc (.cells ((f k).map (Value.int .u8)).toArray 125) := ⟨_, rfl⟩
      rw [← hwx]
      have hbx : Below wr.heap.size wr wx := by rw [hwx]; exact (Below.refl _ _).alloc (Nat.le_refl _) _
      have hBx : Buf wx w.heap.size (secBytes k f ++ List.replicate ((c - k) * 16) 0) := (unhide hB).block (hbx.block _ hgl)
      have hRx : Row wx (some ⟨wr.heap.size, 0, none⟩) (f k).length (f k) := ⟨rfl, fun i hi => ⟨_, 0, rfl, by rw [hwx, Nat.zero_add, cell_new rfl]; simp [List.getD, hi]⟩⟩
      obtain ⟨w2, hcp, hB2, hO2⟩ := Buf.copy (w := wx.drew) (o := k * 16) hBx hRx (by rw [hk16, List.length_append, secBytes_len f (unhide H16)]; simp; omega) 16 16 16 16 (by rw [hk16]; rfl)
      rw [secBytes_step c k f (unhide H16) hlt] at hB2
      rw [hk16] at hcp
      have hS := sectorOf_any w.heap.size 0 (c * 16) (c * 16) k
      rw [Nat.zero_add] at hS
      have HS := hide (fun w => hS w (by omega) (Nat.le_refl _) (by unfold maxLen; omega))
      have HB2 := hide hB2
      have HO := hide (show Below w.heap.size w w2 from (hb.trans (hbx.mono hsz)).trans (show Below w.heap.size wx w2 from have h := hO2.below (B := w.heap.size) (Nat.le_refl _); ⟨h.os, h.tape, h.output, h.size, h.block⟩))
      clear hwx hbx hBx hRx hB2 hO2 hS hb hmr hB d1
      go_wp2_with fail
      go_region_with (go_at_call 90; refine (unhide HS _).mono ?_; rintro e w3 ⟨rfl, rfl⟩)
      all_goals
        clear hcp
        go_wp2_with fail
        go_roundw
        case rel => exact ⟨k + 1, by omega, by go_num, unhide HB2, unhide HO⟩
        case measure => simp [intOf]; omega
    · obtain rfl : k = c := by omega
      have M := hide (show Mine wr w.heap.size (.slice (some ⟨w.heap.size, 0, none⟩) (k * 16) (k * 16)) (secBytes k f) from by
        have hB2 := unhide hB
        simp only [Nat.sub_self, Nat.zero_mul, List.replicate_zero, List.append_nil] at hB2
        have := hB2.mine (Nat.le_refl _) (by rw [secBytes_len f (unhide H16)]; unfold maxLen; omega)
        rwa [secBytes_len f (unhide H16)] at this)
      go_wp2_with fail
      go_ret
      exact ⟨rfl, unhide M, hb⟩
end Go.Proofs.Ytocdbijmpecdgaa

namespace Go.Proofs.Ytocdbijmpecdgaa
open Go.RowKit Go.Maps

/-- The kept ones, as they lie. -/
theorem kept_row {w : World} {base : Nat} {v : Value} {l : List WD} (h : w.ownsRow base 131 17 v l.length (allCells l)) : ∃ a cap, v = .slice a l.length cap ∧ (0 < l.length → ∃ g, a = some ⟨g, 0, none⟩ ∧ l.length ≤ cap ∧ cap ≤ maxLen ∧ base ≤ g ∧ g < w.heap.size ∧ ∀ j, j < l.length * 17 → w.cell? ⟨g, j, none⟩ = (allCells l)[j]?) := by
  rcases wait_form h with ⟨rfl, hn⟩ | ⟨g, cap, rfl, h1, h2, h3, h4⟩
  · exact ⟨none, 0, by rw [hn], fun h => by omega⟩
  · exact ⟨_, cap, rfl, fun _ => ⟨g, rfl, h1, h2, (h.lt g rfl).1, h3, h4⟩⟩
/-- The law of a sector that waits, laid into the box that was made last. -/
theorem wpList_boxw (w : World) {ops : Array Oper} {rest : List Oper} {o : Oper} {a : Act} {Q : Exit → Act → World → Prop} (hg : o.guard = none) (x y : Operand) (hop : o.op = Op.store 131 x y) (c c' : Array Value)
    (hx : a.eval x = .pointer (some ⟨w.heap.size, 0, none⟩)) (hy : a.eval y = .agg c') (hc : c.size = 17) (hc' : c'.size = 17) (h1 : c'.all (·.oneCell') = true)
    (hK : wpList Try.prog ops Q rest (a.put o.dst undef) (w.alloc (.cells c' 131))) : wpList Try.prog ops Q (o :: rest) a (w.alloc (.cells c 131)) := by
  refine wpList_plain hg fun K' hK' => ?_
  have hrun := run_storeAt_new (P := Try.prog) w 131 c c' (by rw [ws_info, hc']) (by rw [hc, hc']) h1
  unfold Oper.wp
  simp [execOp, hop, hx, hy, hrun, Result.andThen]
  exact hK' _ _ hK
theorem wpList_box1 (w : World) (g : Nat) (hgs : g = w.heap.size) {ops : Array Oper} {rest : List Oper} {o : Oper} {a : Act} {Q : Exit → Act → World → Prop} (hg : o.guard = none) (x y : Operand) (hop : o.op = Op.store 125 x y) (c c' : Array Value)
    (hx : a.eval x = .pointer (some ⟨g, 0, none⟩)) (hy : a.eval y = .agg c') (hc : c.size = 16) (hc' : c'.size = 16) (h1 : c'.all (·.oneCell') = true)
    (hK : wpList Try.prog ops Q rest (a.put o.dst undef) (w.alloc (.cells c' 125))) : wpList Try.prog ops Q (o :: rest) a (w.alloc (.cells c 125)) := by
  subst hgs
  exact wpList_box w hg x y hop c c' hx hy hc hc' h1 hK
theorem ws_all (d : WD) : ((wcells d).toArray).all (·.oneCell') = true := all_oneCell_toArray (wcells_one d)
/-- The bytes of a sector that waits, in the box that was made last. -/
theorem box_range (w : World) (n : Int) (s : List Int) : (w.alloc (.cells (wcells ⟨n, s⟩).toArray 131)).rangeAt w.heap.size 1 (s.map (Value.int .u8)) := by
  intro j v hv
  rw [cell_new rfl, List.getElem?_toArray]
  have e : wcells ⟨n, s⟩ = .int .i64 n :: s.map (Value.int .u8) := rfl
  rw [e, show 1 + j = j + 1 by omega, List.getElem?_cons_succ]
  exact hv
/-- A look-up and a store whose runs are known, as steps of a region that draws. -/
theorem step_lookup_eq {P : Program} {ops : Array Oper} {o : Oper} {a : Act} {w : World} {K : Act → World → Prop} {Q : Exit → Act → World → Prop} {E : Prop}
    (hg : o.guard = none) (m x : Operand) (t : TypeId) (hop : o.op = Op.lookup t m x false)
    (vm vx v' : Value) (hm : a.eval m = vm) (hx : a.eval x = vx) (hrun : (Instr.lookup t vm vx false).run P w = .ok v' w) (hK : K (a.put o.dst v') w) :
    if Region.wanted o (yielded ops a.tmps) = true then Oper.wp P o a w K Q else E := by
  have hw : Region.wanted o (yielded ops a.tmps) = true := by simp [Region.wanted, hg]
  rw [if_pos hw]
  unfold Oper.wp
  simp [execOp, hop, hm, hx, hrun, Result.andThen]
  exact hK
theorem step_store_eq {P : Program} {ops : Array Oper} {o : Oper} {a : Act} {w : World} {K : Act → World → Prop} {Q : Exit → Act → World → Prop} {E : Prop}
    (hg : o.guard = none) (x y : Operand) (t : TypeId) (hop : o.op = Op.store t x y)
    (vx vy : Value) (w' : World) (hx : a.eval x = vx) (hy : a.eval y = vy) (hrun : (Instr.storeAt t vx vy).run P w = .ok () w') (hK : K (a.put o.dst undef) w') :
    if Region.wanted o (yielded ops a.tmps) = true then Oper.wp P o a w K Q else E := by
  have hw : Region.wanted o (yielded ops a.tmps) = true := by simp [Region.wanted, hg]
  rw [if_pos hw]
  unfold Oper.wp
  simp [execOp, hop, hx, hy, hrun, Result.andThen]
  exact hK
/-- The first t bytes of a row are copied into a sector's box. -/
theorem sec_copy {w : World} {g b so t : Nat} {fs s : List Int} (h : w.heap[g]? = some (.cells (fs.map (Value.int .u8)).toArray 125 (0, 0))) (hr : Row w (some ⟨b, so, none⟩) s.length s) (ht : t ≤ s.length) (ht2 : t ≤ fs.length) (dc sc : Nat) :
    ∃ w', (Builtin.copy_ #[22, 22] 3 #[.slice (some ⟨g, 0, none⟩) t dc, .slice (some ⟨b, so, none⟩) s.length sc]).run Try.prog w = .ok (.int .i64 (t : Int)) w' ∧ w'.heap[g]? = some (.cells ((s.take t ++ fs.drop t).map (Value.int .u8)).toArray 125 (0, 0)) ∧ Only g w w' := by
  have hl : (s.take t).length = t := by simp; omega
  have hc := run_copy_row (P := Try.prog) w 22 22 3 5 g 0 t dc ⟨b, so, none⟩ s.length sc _ 125 ((s.take t).map (Value.int .u8)) Try.underlying22 u8_info h (by rw [List.length_map, hl]; exact (Nat.min_eq_right ht).symm) (fun j v hv => by
      have hj : j < t := by have := (List.getElem?_eq_some_iff.1 hv).1; simp at this; omega
      obtain ⟨b', off', e, hcell⟩ := hr.2 j (by omega)
      injection e with e
      injection e with e1 e2
      subst e1 e2
      rw [Addr.add_mid, hcell, ← hv]
      simp [List.getD, hj, show j < s.length by omega]) (by simp; omega) (all_u8 _)
  have hgo : goInt ((((s.take t).map (Value.int .u8)).length : Nat) : Int) = .int .i64 (t : Int) := by simp [goInt]; omega
  rw [hgo] at hc
  have e : ((fs.map (Value.int .u8)).toArray.toList.take 0 ++ (s.take t).map (Value.int .u8) ++ (fs.map (Value.int .u8)).toArray.toList.drop (0 + ((s.take t).map (Value.int .u8)).length)).toArray = ((s.take t ++ fs.drop t).map (Value.int .u8)).toArray := by
    simp [List.map_drop, Nat.min_eq_left ht]
  rw [e] at hc
  refine ⟨_, hc, setRow_heap _ _ _ _ _ _ h, ?_⟩
  refine ⟨rfl, rfl, rfl, by simp [World.setRow], fun k hk => ?_, fun a => ?_⟩
  · simp [World.setRow, Array.getElem?_modify, Ne.symm hk]
  · by_cases e : a.block = g
    · have h2 := setRow_heap w g _ (((s.take t ++ fs.drop t).map (Value.int .u8)).toArray) 125 (0, 0) h
      simp only [World.frozen?, e, h, h2]
    · have h2 : ∀ c', (w.setRow g c').heap[a.block]? = w.heap[a.block]? := fun c' => by simp [World.setRow, Array.getElem?_modify, Ne.symm e]
      simp only [World.frozen?, h2]
set_option maxRecDepth 100000 in
set_option maxHeartbeats 4000000 in
theorem crash_any (base p N : Nat) (S : DS) (ak : Option Addr) (nk ck : Nat) (ks : List Bool) (t : Nat) (w : World) (hD : Dev w base p N S) (hN : N ≤ 10000) (hw : S.ws.length ≤ 4096) (hB : BRow w ak nk ks) (hk : nk ≤ 1048576) (ht : t ≤ 16) :
    Calls Try.prog 93 #[.pointer (some ⟨p, 0, none⟩), .slice ak nk ck, .int .i64 (t : Int)] w fun e w' => e = .returned (.int .i64 0) ∧ (∃ S', Dev w' base p 20000 S' ∧ S'.ws = [] ∧ secBytes S'.hc S'.hf = crashD (secBytes S.hc S.hf) S.ws ks t ∧ S'.rc = S'.hc ∧ S'.rf = S'.hf) ∧ Below base w w' := by
  have HK := hide (kept_any base p N S ak nk ck ks w hD hw hB hk)
  obtain ⟨mh, mr, v, hd⟩ := hD
  have HD := hide hd
  clear hd hB
  go_enter Try.func93, Try.ntmps93
  go_wp2_with (go_at_call 118; refine (unhide HK).mono ?_; rintro e w1 ⟨v1, rfl, hO, hb1⟩; obtain ⟨a1, cap1, rfl, hrow⟩ := kept_row hO)
  have HR := hide hrow
  have HM := hide (show ∀ d ∈ keptD S.ws ks, WDok d from fun d hd => (unhide HD).wok d (keptD_mem _ _ d hd))
  have hll := keptD_len S.ws ks
  have HCD := hide (show crashD (secBytes S.hc S.hf) S.ws ks t = crAt (secBytes S.hc S.hf) (keptD S.ws ks) t (keptD S.ws ks).length from rfl)
  have D1 := hide ((unhide HD).below hb1)
  have hlow := (unhide HD).low
  have hpl : p < w.heap.size := cell_lt (unhide HD).c0
  have B1 := hide (hb1.mono (show base ≤ w.heap.size by omega))
  have s1 := hb1.size
  clear hO hrow hb1
  generalize keptD S.ws ks = l at *
  go_wp2_with fail
  go_loopw [22] (fun i wr => ∃ (k : Nat) (c : Nat) (f : Nat → List Int), k ≤ l.length ∧ i = .int .i64 k ∧ Hid (DevAt wr base p mh mr v (N + k) { S with hc := c, hf := f }) ∧ Hid (secBytes c f = crAt (secBytes S.hc S.hf) l t k) ∧ Hid (∀ b, w.heap.size ≤ b → b < w1.heap.size → wr.heap[b]? = w1.heap[b]?) ∧ w1.heap.size ≤ wr.heap.size ∧ Hid (Below base w wr)) (fun i _ => l.length - (intOf i).toNat)
  case atStart => exact ⟨0, S.hc, S.hf, Nat.zero_le _, rfl, unhide D1, (crAt_zero _ _ _).symm, fun _ _ _ => rfl, Nat.le_refl _, unhide B1⟩
  case round =>
    clear D1 B1
    obtain ⟨k, c, f, hk', rfl, hD, hC, hG, hsz, hb⟩ := hrel
    by_cases hlt : k < l.length
    · obtain ⟨g2, rfl, hc1, hc2, hg2, hg2l, hcells⟩ := unhide HR (by omega)
      obtain ⟨hd0, hd1, hd16⟩ := unhide HM _ (List.getElem_mem hlt)
      have hrg := ws_range (w := wr) (g := g2) (l := l) (fun j hj => (World.cell?_of_block (w := w1) (a := ⟨g2, j, none⟩) (unhide hG g2 hg2 hg2l)).trans (hcells j hj)) hlt (fun d hd => (unhide HM d hd).2.2)
      have HRG := hide hrg
      clear hcells hrg
      unfold maxLen at hc2
      have CM := hide (show k + 1 < l.length → crAt (secBytes S.hc S.hf) l t (k + 1) = putD (crAt (secBytes S.hc S.hf) l t k) (l[k]'hlt) 16 from fun h => crAt_mid _ _ _ _ h)
      have CL := hide (show k + 1 = l.length → crAt (secBytes S.hc S.hf) l t (k + 1) = putD (crAt (secBytes S.hc S.hf) l t k) (l[k]'hlt) t from fun h => crAt_last _ _ _ _ h)
      obtain ⟨n, s, hpd, hn127, hs16⟩ : ∃ (n : Nat) (s : List Int), l[k] = ⟨(n : Int), s⟩ ∧ n ≤ 127 ∧ s.length = 16 := ⟨l[k].at_.toNat, l[k].xs, by rw [Int.toNat_of_nonneg hd0], by omega, hd16⟩
      rw [hpd] at HRG CM CL
      clear hpd hd0 hd1 hd16
      have hl17 := wcells_len (d := ⟨(n : Int), s⟩) hs16
      have HI := hide (show (Try.prog.info? 131).map (·.size) = some (wcells ⟨(n : Int), s⟩).length by rw [ws_info, hl17])
      have HS := hide (show (Try.prog.info? 125).map (·.size) = some (s.map (Value.int .u8)).length by rw [sec_info]; simp [hs16])
      have hmhl : mh < w.heap.size := (unhide HD).held.lt
      have FIN := hide (fun (wx w3 : World) (s' : List Int) (hx : Below wr.heap.size wr wx) (h16' : s'.length = 16) (hm : SecMap w3 mh (N + k + 1) (updS f n s')) (hc : w3.cell? ⟨p, 0, none⟩ = some (.int .i64 ((max c (n + 1) : Nat) : Int))) (hp : Put2 p 0 mh wx w3) =>
        show DevAt w3 base p mh mr v (N + (k + 1)) { S with hc := max c (n + 1), hf := updS f n s' } ∧ (∀ b, w.heap.size ≤ b → b < w1.heap.size → w3.heap[b]? = w1.heap[b]?) ∧ w1.heap.size ≤ w3.heap.size ∧ Below base w w3 from by
          have dx := (unhide hD).below hx
          have r := dx.putHeld h16' (by omega) hm hc hp
          refine ⟨r.1, fun b h1 h2 => ?_, Nat.le_trans hsz (Nat.le_trans hx.size hp.size), (unhide hb).trans ((hx.mono (by omega)).trans r.2)⟩
          rw [hp.block b (by omega) (by omega) (Nat.lt_of_lt_of_le h2 (Nat.le_trans hsz hx.size)), hx.block b (by omega)]
          exact unhide hG b h1 h2)
      have hok := (unhide hD).hok
      simp only at hok
      have SB := hide (fun t' (ht' : t' ≤ 16) => secBytes_put c f hok.2.1 hok.2.2 ⟨(n : Int), s⟩ hs16 t' ht')
      have SB16 := hide (secBytes_put16 c f hok.2.1 hok.2.2 ⟨(n : Int), s⟩ hs16)
      have hfn := hok.2.1 n
      have DX := hide (fun (wx : World) (hx : Below wr.heap.size wr wx) => (unhide hD).below hx)
      have HPUT := hide (fun (s' : List Int) (x : World) (h16' : s'.length = 16) (hx : SecMap x mh (N + k) f) => put_any p 0 mh (N + k) n c f s' x h16' hx (by unfold maxLen; omega) (by omega))
      clear hok
      by_cases hlast : k + 1 = l.length
      · have hne : ((k : Int) == (l.length : Int) - 1) = true := by simp; omega
        go_wp2_with (first
          | (refine wpList_load_mid rfl 131 _ rfl g2 (k * 17) rfl _ _ (unhide HRG) Try.underlying131 rfl (unhide HI) ?_)
          | (refine wpList_boxw wr rfl _ _ rfl _ (wcells ⟨(n : Int), s⟩).toArray rfl rfl rfl (by simp [hl17]) (ws_all _) ?_)
          | (refine wpList_load_mid rfl 125 _ rfl wr.heap.size 1 rfl (s.map (Value.int .u8)) _ (box_range wr _ _) Try.underlying125 rfl (unhide HS) ?_)
          | (refine wpList_box1 (wr.alloc (.cells (wcells ⟨(n : Int), s⟩).toArray 131)) (wr.heap.size + 1) (by simp) rfl _ _ rfl _ (s.map (Value.int .u8)).toArray rfl rfl rfl (by simp [hs16]) (sec_one _) ?_))
        obtain ⟨wx, hwx⟩ : ∃ wx, wx = (wr.alloc (.cells (wcells ⟨(n : Int), s⟩).toArray 131)).alloc (.cells (s.map (Value.int .u8)).toArray 125) := ⟨_, rfl⟩
        obtain ⟨wy, hwy⟩ : ∃ wy, wy = (wr.alloc (.cells (wcells ⟨(n : Int), s⟩).toArray 131)).alloc (.cells ((f n).map (Value.int .u8)).toArray 125) := ⟨_, rfl⟩
        have bX : ∀ o, Below wr.heap.size wr ((wr.alloc (.cells (wcells ⟨(n : Int), s⟩).toArray 131)).alloc o) := fun o => ((Below.refl wr.heap.size wr).alloc (Nat.le_refl _) _).alloc (by simp) _
        have BX : Below wr.heap.size wr wx := by rw [hwx]; exact bX _
        have BY : Below wr.heap.size wr wy := by rw [hwy]; exact bX _
        have a0 : wx.cell? ⟨wr.heap.size, 0, none⟩ = some (.int .i64 (n : Int)) := by rw [hwx]; exact (cell_old (by simp)).trans ((cell_new rfl).trans rfl)
        have b0 : wy.cell? ⟨wr.heap.size, 0, none⟩ = some (.int .i64 (n : Int)) := by rw [hwy]; exact (cell_old (by simp)).trans ((cell_new rfl).trans rfl)
        have m1 := (unhide DX wx BX).c1
        have hlook := SecMap.lookup (w := wx.drew) (unhide DX wx BX).held (show n < 128 by omega)
        obtain ⟨F, hF⟩ : ∃ F, F = ((f n).map (Value.int .u8)).toArray := ⟨_, rfl⟩
        have hF16 : F.size = 16 := by rw [hF]; simp [hfn]
        rw [show sv (f n) = .agg F by rw [hF]; rfl] at hlook
        have hst : (storeCells ⟨wr.heap.size + 1, 0, none⟩ F.toList 0).run Try.prog wx.drew = .ok () wy.drew := by
          have := run_storeCells_new (P := Try.prog) (wr.alloc (.cells (wcells ⟨(n : Int), s⟩).toArray 131)).drew 125 (s.map (Value.int .u8)).toArray F (by rw [sec_info, hF16]) (by rw [hF16]; simp [hs16]) (by rw [hF]; exact sec_one _)
          rw [hwx, hwy, ← hF]
          have e : (wr.alloc (.cells (wcells ⟨(n : Int), s⟩).toArray 131)).drew.heap.size = wr.heap.size + 1 := by show (wr.alloc _).heap.size = _; simp
          rw [e] at this
          exact this
        have hyb : wy.heap[wr.heap.size + 1]? = some (.cells ((f n).map (Value.int .u8)).toArray 125 (0, 0)) := by
          rw [hwy]
          have e : wr.heap.size + 1 = (wr.alloc (.cells (wcells ⟨(n : Int), s⟩).toArray 131)).heap.size := by simp
          rw [e]; exact heap_alloc_last _ _
        have hrw : Row wy (some ⟨wr.heap.size, 1, none⟩) s.length s := ⟨rfl, fun i hi => ⟨_, 1, rfl, by
          have := box_range wr (n : Int) s i (.int .u8 (s.getD i 0)) (by simp [List.getD, hi])
          rw [hwy]
          exact (cell_old (by simp)).trans this⟩⟩
        have szy : wr.heap.size + 1 < wy.heap.size := by rw [hwy]; simp
        rw [← hwx]
        clear hwx hwy bX
        clear hF
        go_region
        obtain ⟨wz, hcp, hzb, hzo⟩ := sec_copy (w := wy.drew.drew) hyb hrw (t := t) (by omega) (by omega) 16 16
        rw [hs16] at hcp
        clear hst hlook hF16 a0 m1 BX
        go_wp2_with fail
        go_region_law (refine step_copy_eq rfl _ _ 22 rfl _ _ _ wz rfl rfl hcp ?_)
        have BZ := hide (BY.trans (show Below wr.heap.size wy wz from have h := hzo.below (B := wr.heap.size) (by omega); ⟨h.os, h.tape, h.output, h.size, h.block⟩))
        have a0 : wz.cell? ⟨wr.heap.size, 0, none⟩ = some (.int .i64 (n : Int)) := (hzo.cell (p := ⟨wr.heap.size, 0, none⟩) (by simp)).trans b0
        obtain ⟨s', hs'⟩ : ∃ s', s' = s.take t ++ (f n).drop t := ⟨_, rfl⟩
        have hs16' : s'.length = 16 := by rw [hs']; simp [hs16, hfn]; omega
        rw [← hs'] at hzb
        obtain ⟨cs, hcs⟩ : ∃ cs, cs = (s'.map (Value.int .u8)).toArray := ⟨_, rfl⟩
        have Y := hide (show ∀ j, wz.cell? ⟨wr.heap.size + 1, j, none⟩ = cs[j]? from fun j => by rw [hcs]; simp [World.cell?, hzb])
        have hz : cs.size = 16 := by rw [hcs]; simp [hs16']
        have hsv : sv s' = .agg #[cs[0], cs[1], cs[2], cs[3], cs[4], cs[5], cs[6], cs[7], cs[8], cs[9], cs[10], cs[11], cs[12], cs[13], cs[14], cs[15]] := by rw [eta16 hz, hcs]; rfl
        have HP := unhide HPUT s' wz hs16' (unhide DX wz (unhide BZ)).held (unhide DX wz (unhide BZ)).c0 (unhide DX wz (unhide BZ)).c1 ((unhide DX wz (unhide BZ)).free 0) (unhide DX wz (unhide BZ)).apart.1
        have HPd := unhide HPUT s' wz.drew hs16' (unhide DX wz (unhide BZ)).held (unhide DX wz (unhide BZ)).c0 (unhide DX wz (unhide BZ)).c1 ((unhide DX wz (unhide BZ)).free 0) (unhide DX wz (unhide BZ)).apart.1
        rw [hsv] at HP HPd
        have HPH := hide HP
        have HPHd := hide HPd
        have RC := hide (show secBytes (max c (n + 1)) (updS f n s') = crAt (secBytes S.hc S.hf) l t (k + 1) by
          rw [unhide CL hlast, ← unhide hC, hs']; exact unhide SB t ht)
        have y0 : wz.cell? ⟨wr.heap.size + 1, 0, none⟩ = some cs[0] := (unhide Y 0).trans (Array.getElem?_eq_getElem (by omega))
        have y1 : wz.cell? ⟨wr.heap.size + 1, 1, none⟩ = some cs[1] := (unhide Y 1).trans (Array.getElem?_eq_getElem (by omega))
        have y2 : wz.cell? ⟨wr.heap.size + 1, 2, none⟩ = some cs[2] := (unhide Y 2).trans (Array.getElem?_eq_getElem (by omega))
        have y3 : wz.cell? ⟨wr.heap.size + 1, 3, none⟩ = some cs[3] := (unhide Y 3).trans (Array.getElem?_eq_getElem (by omega))
        have y4 : wz.cell? ⟨wr.heap.size + 1, 4, none⟩ = some cs[4] := (unhide Y 4).trans (Array.getElem?_eq_getElem (by omega))
        have y5 : wz.cell? ⟨wr.heap.size + 1, 5, none⟩ = some cs[5] := (unhide Y 5).trans (Array.getElem?_eq_getElem (by omega))
        have y6 : wz.cell? ⟨wr.heap.size + 1, 6, none⟩ = some cs[6] := (unhide Y 6).trans (Array.getElem?_eq_getElem (by omega))
        have y7 : wz.cell? ⟨wr.heap.size + 1, 7, none⟩ = some cs[7] := (unhide Y 7).trans (Array.getElem?_eq_getElem (by omega))
        have y8 : wz.cell? ⟨wr.heap.size + 1, 8, none⟩ = some cs[8] := (unhide Y 8).trans (Array.getElem?_eq_getElem (by omega))
        have y9 : wz.cell? ⟨wr.heap.size + 1, 9, none⟩ = some cs[9] := (unhide Y 9).trans (Array.getElem?_eq_getElem (by omega))
        have y10 : wz.cell? ⟨wr.heap.size + 1, 10, none⟩ = some cs[10] := (unhide Y 10).trans (Array.getElem?_eq_getElem (by omega))
        have y11 : wz.cell? ⟨wr.heap.size + 1, 11, none⟩ = some cs[11] := (unhide Y 11).trans (Array.getElem?_eq_getElem (by omega))
        have y12 : wz.cell? ⟨wr.heap.size + 1, 12, none⟩ = some cs[12] := (unhide Y 12).trans (Array.getElem?_eq_getElem (by omega))
        have y13 : wz.cell? ⟨wr.heap.size + 1, 13, none⟩ = some cs[13] := (unhide Y 13).trans (Array.getElem?_eq_getElem (by omega))
        have y14 : wz.cell? ⟨wr.heap.size + 1, 14, none⟩ = some cs[14] := (unhide Y 14).trans (Array.getElem?_eq_getElem (by omega))
        have y15 : wz.cell? ⟨wr.heap.size + 1, 15, none⟩ = some cs[15] := (unhide Y 15).trans (Array.getElem?_eq_getElem (by omega))
        have S16' := hide hs16'
        clear hcs hsv HP HPd hs' hcp hzb hzo hyb hrw BY b0 szy hs16'
        go_wp2_with fail
        go_region_with (go_at_call 89; (first | refine (unhide HPHd).mono ?_ | refine (unhide HPH).mono ?_); rintro e w3 ⟨rfl, hm3, hc3, hp3⟩)
        all_goals
          have R := hide (unhide FIN wz w3 s' (unhide BZ) (unhide S16') hm3 hc3 ⟨hp3.os, hp3.tape, hp3.output, hp3.size, hp3.block, hp3.cell, hp3.frozen, hp3.kind⟩)
          clear hm3 hc3 hp3
          go_wp2_with fail
          go_roundw
          case rel => exact ⟨k + 1, _, _, by omega, by go_num, (unhide R).1, unhide RC, (unhide R).2.1, (unhide R).2.2.1, (unhide R).2.2.2⟩
          case measure => simp [intOf]; omega
      · have hne : ((k : Int) == (l.length : Int) - 1) = false := by simp; omega
        go_wp2_with (first
          | (refine wpList_load_mid rfl 131 _ rfl g2 (k * 17) rfl _ _ (unhide HRG) Try.underlying131 rfl (unhide HI) ?_)
          | (refine wpList_boxw wr rfl _ _ rfl _ (wcells ⟨(n : Int), s⟩).toArray rfl rfl rfl (by simp [hl17]) (ws_all _) ?_)
          | (refine wpList_load_mid rfl 125 _ rfl wr.heap.size 1 rfl (s.map (Value.int .u8)) _ (box_range wr _ _) Try.underlying125 rfl (unhide HS) ?_)
          | (refine wpList_box1 (wr.alloc (.cells (wcells ⟨(n : Int), s⟩).toArray 131)) (wr.heap.size + 1) (by simp) rfl _ _ rfl _ (s.map (Value.int .u8)).toArray rfl rfl rfl (by simp [hs16]) (sec_one _) ?_))
        have BX := hide (((Below.refl wr.heap.size wr).alloc (Nat.le_refl _) (.cells (wcells ⟨(n : Int), s⟩).toArray 131)).alloc (by simp) (.cells (s.map (Value.int .u8)).toArray 125))
        have a0 : ((wr.alloc (.cells (wcells ⟨(n : Int), s⟩).toArray 131)).alloc (.cells (s.map (Value.int .u8)).toArray 125)).cell? ⟨wr.heap.size, 0, none⟩ = some (.int .i64 (n : Int)) := (cell_old (by simp)).trans ((cell_new rfl).trans rfl)
        have Y := hide (fun j => show ((wr.alloc (.cells (wcells ⟨(n : Int), s⟩).toArray 131)).alloc (.cells (s.map (Value.int .u8)).toArray 125)).cell? ⟨wr.heap.size + 1, j, none⟩ = (s.map (Value.int .u8)).toArray[j]? from cell_new (by simp))
        generalize (wr.alloc (.cells (wcells ⟨(n : Int), s⟩).toArray 131)).alloc (.cells (s.map (Value.int .u8)).toArray 125) = wx at *
        obtain ⟨cs, hcs⟩ : ∃ cs, cs = (s.map (Value.int .u8)).toArray := ⟨_, rfl⟩
        have hz : cs.size = 16 := by rw [hcs]; simp [hs16]
        have hsv : sv s = .agg #[cs[0], cs[1], cs[2], cs[3], cs[4], cs[5], cs[6], cs[7], cs[8], cs[9], cs[10], cs[11], cs[12], cs[13], cs[14], cs[15]] := by rw [eta16 hz, hcs]; rfl
        rw [← hcs] at Y
        have HP := unhide HPUT s wx hs16 (unhide DX wx (unhide BX)).held (unhide DX wx (unhide BX)).c0 (unhide DX wx (unhide BX)).c1 ((unhide DX wx (unhide BX)).free 0) (unhide DX wx (unhide BX)).apart.1
        have HPd := unhide HPUT s wx.drew hs16 (unhide DX wx (unhide BX)).held (unhide DX wx (unhide BX)).c0 (unhide DX wx (unhide BX)).c1 ((unhide DX wx (unhide BX)).free 0) (unhide DX wx (unhide BX)).apart.1
        rw [hsv] at HP HPd
        have HPH := hide HP
        have HPHd := hide HPd
        rw [← hcs]
        have y0 : wx.cell? ⟨wr.heap.size + 1, 0, none⟩ = some cs[0] := (unhide Y 0).trans (Array.getElem?_eq_getElem (by omega))
        have y1 : wx.cell? ⟨wr.heap.size + 1, 1, none⟩ = some cs[1] := (unhide Y 1).trans (Array.getElem?_eq_getElem (by omega))
        have y2 : wx.cell? ⟨wr.heap.size + 1, 2, none⟩ = some cs[2] := (unhide Y 2).trans (Array.getElem?_eq_getElem (by omega))
        have y3 : wx.cell? ⟨wr.heap.size + 1, 3, none⟩ = some cs[3] := (unhide Y 3).trans (Array.getElem?_eq_getElem (by omega))
        have y4 : wx.cell? ⟨wr.heap.size + 1, 4, none⟩ = some cs[4] := (unhide Y 4).trans (Array.getElem?_eq_getElem (by omega))
        have y5 : wx.cell? ⟨wr.heap.size + 1, 5, none⟩ = some cs[5] := (unhide Y 5).trans (Array.getElem?_eq_getElem (by omega))
        have y6 : wx.cell? ⟨wr.heap.size + 1, 6, none⟩ = some cs[6] := (unhide Y 6).trans (Array.getElem?_eq_getElem (by omega))
        have y7 : wx.cell? ⟨wr.heap.size + 1, 7, none⟩ = some cs[7] := (unhide Y 7).trans (Array.getElem?_eq_getElem (by omega))
        have y8 : wx.cell? ⟨wr.heap.size + 1, 8, none⟩ = some cs[8] := (unhide Y 8).trans (Array.getElem?_eq_getElem (by omega))
        have y9 : wx.cell? ⟨wr.heap.size + 1, 9, none⟩ = some cs[9] := (unhide Y 9).trans (Array.getElem?_eq_getElem (by omega))
        have y10 : wx.cell? ⟨wr.heap.size + 1, 10, none⟩ = some cs[10] := (unhide Y 10).trans (Array.getElem?_eq_getElem (by omega))
        have y11 : wx.cell? ⟨wr.heap.size + 1, 11, none⟩ = some cs[11] := (unhide Y 11).trans (Array.getElem?_eq_getElem (by omega))
        have y12 : wx.cell? ⟨wr.heap.size + 1, 12, none⟩ = some cs[12] := (unhide Y 12).trans (Array.getElem?_eq_getElem (by omega))
        have y13 : wx.cell? ⟨wr.heap.size + 1, 13, none⟩ = some cs[13] := (unhide Y 13).trans (Array.getElem?_eq_getElem (by omega))
        have y14 : wx.cell? ⟨wr.heap.size + 1, 14, none⟩ = some cs[14] := (unhide Y 14).trans (Array.getElem?_eq_getElem (by omega))
        have y15 : wx.cell? ⟨wr.heap.size + 1, 15, none⟩ = some cs[15] := (unhide Y 15).trans (Array.getElem?_eq_getElem (by omega))
        clear hcs hsv HP HPd
        go_region_with (go_at_call 89; (first | refine (unhide HPHd).mono ?_ | refine (unhide HPH).mono ?_); rintro e w3 ⟨rfl, hm3, hc3, hp3⟩)
        all_goals
          have R := hide (unhide FIN wx w3 s (unhide BX) hs16 hm3 hc3 ⟨hp3.os, hp3.tape, hp3.output, hp3.size, hp3.block, hp3.cell, hp3.frozen, hp3.kind⟩)
          have RC := hide (show secBytes (max c (n + 1)) (updS f n s) = crAt (secBytes S.hc S.hf) l t (k + 1) by
            rw [unhide CM (by omega), ← unhide hC]; exact unhide SB16)
          clear hm3 hc3 hp3
          go_wp2_with fail
          go_roundw
          case rel => exact ⟨k + 1, _, _, by omega, by go_num, (unhide R).1, unhide RC, (unhide R).2.1, (unhide R).2.2.1, (unhide R).2.2.2⟩
          case measure => simp [intOf]; omega
    · obtain rfl : k = l.length := by omega
      have RC := hide ((unhide hC).trans (unhide HCD).symm)
      have D0 := unhide hD
      have k2 := D0.c2
      have k3 := D0.c3
      have k4 := D0.c4
      have hpr : p < wr.heap.size := cell_lt D0.c0
      have HCL := hide (secs_clone_any p 0 mh (N + l.length) c f wr D0.held D0.c0 D0.c1)
      clear hC HCD D0
      go_wp2_with fail
      refine (unhide HCL).mono ?_
      rintro e w4 ⟨g, rfl, hg, hs4, hb4⟩
      have q2 := (hb4.cell (p := ⟨p, 2, none⟩) hpr).trans k2
      have q3 := (hb4.cell (p := ⟨p, 3, none⟩) hpr).trans k3
      have q4 := (hb4.cell (p := ⟨p, 4, none⟩) hpr).trans k4
      have f2 := (hb4.frozen (p := ⟨p, 2, none⟩) hpr).trans ((unhide hD).free 2)
      have f3 := (hb4.frozen (p := ⟨p, 3, none⟩) hpr).trans ((unhide hD).free 3)
      have f4 := (hb4.frozen (p := ⟨p, 4, none⟩) hpr).trans ((unhide hD).free 4)
      have R := hide ((unhide hD).crashed hb4 hg hs4)
      clear hs4 hb4 k2 k3 k4 HCL
      go_wp2_with fail
      go_ret
      exact ⟨rfl, ⟨_, ⟨mh, g, _, (unhide R).1.mono (by omega)⟩, rfl, unhide RC, rfl, rfl⟩, (unhide hb).trans (unhide R).2⟩
set_option maxHeartbeats 1000000 in
theorem crash_bad (p : Nat) (ak : Option Addr) (nk ck : Nat) (t : Int) (w : World) (ht : ¬ (0 ≤ t ∧ t ≤ 16)) :
    Calls Try.prog 93 #[.pointer (some ⟨p, 0, none⟩), .slice ak nk ck, .int .i64 t] w fun e w' => e = .returned (.int .i64 4) ∧ w' = w := by
  by_cases h0 : t < 0
  · go_enter Try.func93, Try.ntmps93
    go_wp2_with fail
    go_ret
    exact ⟨rfl, rfl⟩
  · have h1 : 16 < t := by omega
    go_enter Try.func93, Try.ntmps93
    go_wp2_with fail
    go_ret
    exact ⟨rfl, rfl⟩
end Go.Proofs.Ytocdbijmpecdgaa

namespace Go.Proofs.Ytocdbijmpecdgaa
open Go.RowKit Go.Maps

/-- A copy whose run is known. -/
theorem wpList_copy_eq {P : Program} {ops : Array Oper} {rest : List Oper} {o : Oper} {a : Act} {w : World} {Q : Exit → Act → World → Prop}
    (hg : o.guard = none) (s x : Operand) (t t2 : TypeId) (hop : o.op = Op.call { callee := Callee.builtin Builtin.copy, args := #[s, x], argTypes := #[t, t2] })
    (vs vx v' : Value) (w' : World) (hs : a.eval s = vs) (hx : a.eval x = vx) (hrun : (Builtin.copy_ #[t, t2] o.type #[vs, vx]).run P w = .ok v' w') (hK : wpList P ops Q rest (a.put o.dst v') w') :
    wpList P ops Q (o :: rest) a w := by
  refine wpList_plain hg fun K' hK' => ?_
  unfold Oper.wp
  simp [execOp, hop, resolve, invoke, builtin, hs, hx, hrun, Result.andThen]
  exact hK' _ _ hK
/-- What one round of a write leaves. -/
structure WrSt (w wr : World) (base p N at_ : Nat) (d : List Int) (S : DS) (j q : Nat) (a : Option Addr) (m : Nat) : Prop where
  dev : Dev wr base p (N + j) (wrDS S at_ d j)
  bel : Below base w wr
  keep : KeepB w wr
  row : ∀ w', Below base w w' → KeepB w w' → Row w' a m (d.drop (q - at_))
  place : q = qAt at_ d.length j
  rest : m = at_ + d.length - q
set_option maxRecDepth 100000 in
set_option maxHeartbeats 8000000 in
theorem write_any (base p N at_ n c : Nat) (ad : Option Addr) (d : List Int) (S : DS) (w : World) (hD : Dev w base p N S) (hN : N ≤ 1000000) (hn : n = d.length) (h : at_ + n ≤ 2048) (hw : S.ws.length + touchN at_ n ≤ 4096) (hc : n ≤ c) (hc2 : c ≤ maxLen)
    (hR : ∀ w', Below base w w' → KeepB w w' → Row w' ad n d) :
    Calls Try.prog 57 #[.pointer (some ⟨p, 0, none⟩), .int .i64 (at_ : Int), .slice ad n c] w fun e w' => e = .returned (.int .i64 0) ∧ Dev w' base p (N + 128) (wrDS S at_ d (touchN at_ d.length)) ∧ Below base w w' ∧ KeepB w w' := by
  unfold maxLen at hc2
  have E0 := hide (show ∀ k, WrSt w (w.drewN k) base p N at_ d S 0 at_ ad n from fun k => ⟨by rw [wrDS_zero]; obtain ⟨mh, mr, v, hd⟩ := hD; exact ⟨mh, mr, v, hd.below (bel_drewN (Below.refl _ _) k)⟩, bel_drewN (Below.refl _ _) k, KeepB.of_below (bel_drewN (Below.refl _ _) k), fun w' h1 h2 => by rw [Nat.sub_self, List.drop_zero]; exact hR w' h1 h2, rfl, by omega⟩)
  obtain ⟨mh, mr, v, hd⟩ := hD
  have ROK := hide hd.rok
  have hT := touch_le h
  have hT2 := hT.2
  have hT1 := hT.1
  clear hT hR
  have h0 : ¬ ((at_ : Int) < 0) := by omega
  have wr : IntKind.i64.wrap (2048 - (at_ : Int)) = 2048 - (at_ : Int) := by rw [IntKind.wrap_i64]; omega
  have h2 : ¬ ((2048 : Int) < (at_ : Int)) := by omega
  have h3 : ¬ (2048 - (at_ : Int) < (n : Int)) := by omega
  have c4 := hd.c4
  obtain ⟨a4, k4, hv⟩ : ∃ a c, v = .slice a S.ws.length c := by
    rcases hd.wait.2 with ⟨e, h0⟩ | ⟨g, cap, cur, e, _⟩
    · exact ⟨none, 0, by rw [e, h0]⟩
    · exact ⟨_, _, e⟩
  rw [hv] at c4
  have HT := hide (fun W => touched_any at_ n W (by omega))
  have hm : ¬ ((4096 : Int) < (S.ws.length : Int) + (touchN at_ n : Int)) := by omega
  have wr2 : IntKind.i64.wrap ((S.ws.length : Int) + (touchN at_ n : Int)) = (S.ws.length : Int) + (touchN at_ n : Int) := by rw [IntKind.wrap_i64]; omega
  have HN := hide hn
  clear hd hv hn
  go_enter Try.func57, Try.ntmps57
  go_wp2_with fail
  go_quiet ((go_at_call 102; exact Calls.quiet_of_same (unhide HT _)))
  clear c4 HT hm wr2 wr h0 h2 h3
  generalize hTT : touchN at_ n = T at *
  have HTT := hide hTT
  clear hTT
  go_wp2_with fail
  go_loopw [1, 2] (fun x y wr => ∃ (j q m c' : Nat) (a : Option Addr), x = .int .i64 (q : Int) ∧ y = .slice a m c' ∧ j ≤ T ∧ at_ ≤ q ∧ q ≤ at_ + n ∧ m ≤ c' ∧ c' ≤ maxLen ∧ Hid (WrSt w wr base p N at_ d S j q a m)) (fun x _ _ => at_ + n - (intOf x).toNat)
  case atStart => exact ⟨0, at_, n, c, ad, rfl, rfl, Nat.zero_le _, Nat.le_refl _, by omega, hc, by unfold maxLen; omega, unhide E0 _⟩
  case round =>
    clear E0
    obtain ⟨j, q, m, c', a, rfl, rfl, hj, hq1, hq2, hmc, hc', ST⟩ := hrel
    unfold maxLen at hc'
    by_cases hlt : j < T
    · have hlt' : j < touchN at_ d.length := by rw [← unhide HN, unhide HTT]; exact hlt
      obtain ⟨f1, f2, f3⟩ := qAt_more hlt'
      have fs := qAt_step hlt'
      rw [← (unhide ST).place] at f1 f2 f3 fs
      have hm := (unhide ST).rest
      have hnl := unhide HN
      obtain ⟨nn, hnn⟩ : ∃ nn, nn = at_ / 16 + j := ⟨_, rfl⟩
      obtain ⟨o, ho⟩ : ∃ o, o = q - nn * 16 := ⟨_, rfl⟩
      obtain ⟨k, hk⟩ : ∃ k, k = min (16 - o) m := ⟨_, rfl⟩
      have hn128 : nn < 128 := by have := hT2 j hlt; omega
      have hm0 : 0 < m := by omega
      have hqm : q + m ≤ at_ + n := by omega
      have ho16 : o < 16 := by omega
      have hoI : (o : Int) ≤ 16 := by omega
      have hoN : ¬ (16 = o) := by omega
      have hqo : q = nn * 16 + o := by omega
      have hk0 : 0 < k ∧ k ≤ m ∧ k ≤ 16 - o := by omega
      have hd1 : Int.tdiv (q : Int) 16 = (nn : Int) := by rw [Int.tdiv_eq_ediv_of_nonneg (by omega)]; omega
      have hd2 : Int.tmod (q : Int) 16 = (o : Int) := by rw [Int.tmod_eq_emod_of_nonneg (by omega)]; omega
      have hrow := (unhide ST).row wr (unhide ST).bel (unhide ST).keep
      obtain ⟨ys, hys⟩ : ∃ ys, ys = d.drop (q - at_) := ⟨_, rfl⟩
      have hyl : ys.length = m := by rw [hys]; exact hrow.1
      obtain ⟨b, off, rfl, _⟩ := hrow.2 0 hm0
      obtain ⟨mh', mr', v', dv⟩ := (unhide ST).dev
      obtain ⟨f, hf⟩ : ∃ f, f = (wrDS S at_ d j).rf := ⟨_, rfl⟩
      have hfn : f nn = S.rf nn := by rw [hf, hnn]; exact wrDS_far S at_ d j
      have hf16 : (f nn).length = 16 := by rw [hfn]; exact (unhide ROK).2.1 nn
      have hmap : SecMap wr mr' (N + j) f := by rw [hf]; exact dv.read
      have c3 := dv.c3
      have hpl : p < wr.heap.size := cell_lt dv.c0
      have hblow : base ≤ wr.heap.size := Nat.le_trans dv.low.1 (Nat.le_of_lt hpl)
      obtain ⟨wx, hwx⟩ : ∃ wx, wx = wr.alloc (.cells ((f nn).map (Value.int .u8)).toArray 125) := ⟨_, rfl⟩
      have bx : Below wr.heap.size wr wx := by rw [hwx]; exact (Below.refl _ _).alloc (Nat.le_refl _) _
      have hxb : wx.heap[wr.heap.size]? = some (.cells ((f nn).map (Value.int .u8)).toArray 125 (0, 0)) := by rw [hwx]; exact heap_alloc_last _ _
      obtain ⟨wz, hcp, hzb, hzo⟩ := sec_copy_at (w := wx) (s := ys) (o := o) (k := k) hxb (by rw [hyl]; exact row_grow (by rw [hys]; exact hrow) bx) (by omega) (by rw [hf16, hyl]; exact hk) (16 - o) c'
      rw [hf16, hyl] at hcp
      have bz : Below wr.heap.size wr wz := bx.trans (hzo.below (Nat.le_refl _))
      obtain ⟨s', hs'⟩ : ∃ s', s' = (f nn).take o ++ ys.take k ++ (f nn).drop (o + k) := ⟨_, rfl⟩
      rw [← hs'] at hzb
      have hs16 : s'.length = 16 := by rw [hs']; simp [hf16]; omega
      have HSW : s' = secW (allW (secBytes S.rc S.rf) at_ d) nn := by
        have := sec_write (unhide ROK) at_ q nn d (by omega) (by omega) hq1 (by rw [hnn]; exact f3) f1
        rw [← this, hs', hfn, hys, ← ho]
        have e : min (16 - o) (d.length - (q - at_)) = k := by omega
        rw [e]
      have RG : wz.rangeAt wr.heap.size 0 (s'.map (Value.int .u8)) := fun i u hu => by
        rw [Nat.zero_add]
        simp only [World.cell?, hzb]
        simpa using hu
      have HS := hide (show (Try.prog.info? 125).map (·.size) = some (s'.map (Value.int .u8)).length by rw [sec_info]; simp [hs16])
      have HWT := hide (wait_keep base p (N + j) nn (wrDS S at_ d j) s' wz ⟨mh', mr', v', dv.below bz⟩ (by unfold maxLen; omega) (by rw [wrDS_ws _ _ _ _ (by omega)]; omega) hs16 hn128)
      have FIN := hide (fun (w' : World) (h1 : Dev w' base p (N + j + 1) { wrDS S at_ d j with rc := max (wrDS S at_ d j).rc (nn + 1), rf := updS (wrDS S at_ d j).rf nn s', ws := (wrDS S at_ d j).ws ++ [⟨nn, s'⟩] }) (h2 : Below base wz w') (h3 : KeepB wz w') (aa : Option Addr) (haa : aa = some ⟨b, off + k, none⟩ ∨ m - k = 0) =>
        show WrSt w w' base p N at_ d S (j + 1) (q + k) aa (m - k) from
          ⟨by rw [wrDS_step S at_ d j hlt', ← hnn, ← HSW]; exact h1, (unhide ST).bel.trans ((bz.mono hblow).trans h2), (unhide ST).keep.trans ((KeepB.of_below bz).trans h3), fun w' g1 g2 => by
            have := row_drop (k := k) ((unhide ST).row w' g1 g2)
            rw [List.drop_drop, show q - at_ + k = q + k - at_ by omega] at this
            rcases haa with rfl | h0
            · exact this
            · exact ⟨this.1, fun i hi => by omega⟩, by rw [← fs]; omega, by omega⟩)
      have RGH := hide RG
      clear hs' HSW hzb hzo hxb bx bz hrow hys hyl hf hfn dv RG f1 f2 f3 fs hm hnl hnn ho hk hlt' hqo
      subst hwx
      go_wp2_with (first
        | (at_lookup; refine wpList_lookup_sec _ rfl _ _ rfl mr' (N + j) f nn rfl rfl hmap (by omega) ?_)
        | (refine wpList_box _ rfl _ _ rfl _ ((f nn).map (Value.int .u8)).toArray rfl rfl rfl (by simp [hf16]) (sec_one _) ?_)
        | (refine wpList_load_mid rfl 125 _ rfl wr.heap.size 0 rfl (s'.map (Value.int .u8)) _ (unhide RGH) Try.underlying125 rfl (unhide HS) ?_))
      refine (unhide HWT).mono ?_
      rintro e w5 ⟨rfl, r1, r2, r3⟩
      have R := hide (unhide FIN w5 r1 r2 r3)
      clear r1 r2 r3 FIN HWT hcp RGH HS
      have hkI : (k : Int) ≤ (m : Int) := by omega
      by_cases hck : c' = k
      · go_wp2_with fail
        go_roundw
        case rel => exact ⟨j + 1, q + k, m - k, 0, _, by go_num, rfl, by omega, by omega, by omega, by omega, by unfold maxLen; omega, unhide R _ (.inr (by omega))⟩
        case measure => simp [intOf]; omega
      · go_wp2_with fail
        go_roundw
        case rel => exact ⟨j + 1, q + k, m - k, c' - k, _, by go_num, rfl, by omega, by omega, by omega, by omega, by unfold maxLen; omega, unhide R _ (.inl rfl)⟩
        case measure => simp [intOf]; omega
    · have hjT : j = T := by omega
      have hq : q = at_ + d.length := by rw [(unhide ST).place, hjT, ← unhide HTT, unhide HN]; exact qAt_end _ _
      have hm0 : m = 0 := by have := (unhide ST).rest; omega
      have R := hide (show Dev wr base p (N + 128) (wrDS S at_ d (touchN at_ d.length)) ∧ Below base w wr ∧ KeepB w wr from by
        obtain ⟨mh', mr', v', dv⟩ := (unhide ST).dev
        have e : j = touchN at_ d.length := by rw [hjT, ← unhide HTT, unhide HN]
        rw [← e]
        exact ⟨⟨mh', mr', v', dv.mono (by omega)⟩, (unhide ST).bel, (unhide ST).keep⟩)
      clear ST
      subst hm0
      go_wp2_with fail
      go_ret
      exact ⟨rfl, unhide R⟩
end Go.Proofs.Ytocdbijmpecdgaa

namespace Go.Proofs.Ytocdbijmpecdgaa
open Go.RowKit Go.Maps

set_option maxRecDepth 100000 in
set_option maxHeartbeats 2000000 in
theorem flash0_any (base p N : Nat) (S : DS) (w : World) (hD : Dev w base p N S) (h0 : S.ws = []) :
    Calls Try.prog 47 #[.pointer (some ⟨p, 0, none⟩)] w fun e w' => ∃ g, e = .returned (fv (some ⟨g, 0, none⟩) (S.hc * 16) (S.hc * 16) none 0 0) ∧ Mine w' w.heap.size (.slice (some ⟨g, 0, none⟩) (S.hc * 16) (S.hc * 16)) (secBytes S.hc S.hf) ∧ Below w.heap.size w w' := by
  obtain ⟨mh, mr, v, hd⟩ := hD
  obtain ⟨a, cap, rfl⟩ : ∃ a cap, v = .slice a 0 cap := by
    have := hd.wait
    rw [h0] at this
    rcases this.2 with ⟨e, _⟩ | ⟨g, cap, _, e, _⟩
    · exact ⟨none, 0, e⟩
    · exact ⟨_, cap, e⟩
  have hpl : p < w.heap.size := cell_lt hd.c0
  have c4 := hd.c4
  have B0 : ∀ o, Below w.heap.size w (w.alloc o) := fun o => (Below.refl _ _).alloc (Nat.le_refl _) _
  have HB := hide (fun o => bytes_any p 0 mh N S.hc S.hf (w.alloc o) (hd.below (B0 o)).held hd.hok.2.1 hd.hok.1 (hd.below (B0 o)).c0 (hd.below (B0 o)).c1)
  clear hd
  go_enter Try.func47, Try.ntmps47
  go_wp2_with fail
  refine (unhide HB _).mono ?_
  rintro e w1 ⟨rfl, hM, hb1⟩
  have hz : (w.alloc (.cells #[.slice none 0 0, .slice none 0 0] 28)).heap.size = w.heap.size + 1 := by simp
  rw [hz] at hM hb1 ⊢
  have c4 : w1.cell? ⟨p, 4, none⟩ = some (.slice a 0 cap) := (hb1.cell (p := ⟨p, 4, none⟩) (by simp; omega)).trans ((cell_old hpl).trans c4)
  have r0 : w1.cell? ⟨w.heap.size, 0, none⟩ = some (.slice none 0 0) := (hb1.cell (p := ⟨w.heap.size, 0, none⟩) (by simp)).trans ((cell_new rfl).trans rfl)
  have r1 : w1.cell? ⟨w.heap.size, 1, none⟩ = some (.slice none 0 0) := (hb1.cell (p := ⟨w.heap.size, 1, none⟩) (by simp)).trans ((cell_new rfl).trans rfl)
  have f0 : w1.frozen? ⟨w.heap.size, 0, none⟩ = false := (hb1.frozen (p := ⟨w.heap.size, 0, none⟩) (by simp)).trans (frozen_new rfl)
  have f1 : w1.frozen? ⟨w.heap.size, 1, none⟩ = false := (hb1.frozen (p := ⟨w.heap.size, 1, none⟩) (by simp)).trans (frozen_new rfl)
  have BB := hide ((B0 (.cells #[.slice none 0 0, .slice none 0 0] 28)).trans (hb1.mono (by omega)))
  have hs1 : w.heap.size + 1 ≤ w1.heap.size := by have := hb1.size; rw [hz] at this; exact this
  have HM := hide hM
  clear hM hb1 hz HB B0
  have hp1 : p < w1.heap.size := by omega
  have hw1 : w.heap.size < w1.heap.size := by omega
  go_wp2_with fail
  refine wp_loop_rounds 1 ?_
  rw [rounds_succ]
  go_wp2_with fail
  have B3 := hide ((((unhide BB).setCell (p := ⟨w.heap.size, 0, none⟩) (Nat.le_refl _) (.slice (some ⟨w.heap.size + 1, 0, none⟩) (S.hc * 16) (S.hc * 16))).setCell (p := ⟨w.heap.size, 1, none⟩) (Nat.le_refl _) (.slice none 0 0)).alloc (by simp [World.setCell]; omega) (.cells #[.slice (some ⟨w.heap.size + 1, 0, none⟩) (S.hc * 16) (S.hc * 16), .slice none 0 0] 28))
  refine bodyPost_ret (v := fv (some ⟨w.heap.size + 1, 0, none⟩) (S.hc * 16) (S.hc * 16) none 0 0) (by simp [results, Try.results47, go_sem, r0, r1, hw1]) rfl ⟨w.heap.size + 1, rfl, ?_, unhide B3⟩
  obtain ⟨a1, c1, e, m1, m2, m3, m4⟩ := unhide HM
  injection e with e1 _ e3
  subst e1 e3
  have hgl := (m4 _ rfl).2.1
  simp only at hgl
  refine ⟨_, _, by rw [‹S.hc * 16 = _›], m1, m2, m3.of_cells fun y hy p hp => ?_, fun y hy => ?_⟩
  · cases hy
    simp only at hp
    rw [cell_old (by simp [World.setCell]; omega), World.cell?_setCell_other _ _ _ _ (by intro e; rw [← e] at hp; simp at hp), World.cell?_setCell_other _ _ _ _ (by intro e; rw [← e] at hp; simp at hp)]
  · cases hy
    refine ⟨by simp, by simp; omega, fun j => ?_⟩
    rw [frozen_old (by simp [World.setCell]; omega), World.frozen?_setCell, World.frozen?_setCell]
    exact (m4 _ rfl).2.2 j
end Go.Proofs.Ytocdbijmpecdgaa

namespace Go.Proofs.Ytocdbijmpecdgaa
open Go.RowKit

theorem owns_block {w w' : World} {B : Nat} {v : Value} {xs : List Int} (h : Owns w B v xs) (hb : ∀ k, v.ownBlock = some k → w'.heap[k]? = w.heap[k]?) : Owns w' B v xs := by
  obtain ⟨h1, h2⟩ := h
  refine ⟨h1, ?_⟩
  rcases h2 with h2 | ⟨g, cap, cur, rfl, hg, hh, r⟩
  · exact .inl h2
  · exact .inr ⟨g, cap, cur, rfl, hg, (hb g rfl).trans hh, r⟩
theorem owns_set {w : World} {B b : Nat} {v : Value} {xs : List Int} (h : Owns w B v xs) (hb : b < B) (o : Nat) (u : Value) : Owns (w.setCell ⟨b, o, none⟩ u) B v xs :=
  owns_block h fun k hk => Below.heap_setCell _ _ _ _ (by have := (h.lt k hk).1; simp; omega)
/-- One of those that wait, put. -/
theorem put_elem {wr : World} {aw : Option Addr} {nw : Nat} {ws : List WD} (hW : WRow wr aw nw ws) (m : Nat) (hm : m < ws.length) (hok : okW ws[m] = true) (t : Nat) (ht : t ≤ 16) (B : Nat) (hB : B ≤ wr.heap.size) (g cap : Nat) (ys : List Int) (hO : Owns wr B (.slice (some ⟨g, 0, none⟩) ys.length cap) ys) (hl : ys.length ≤ 2048) (hl16 : ys.length % 16 = 0) :
    ∃ bw ow at_ ad od cd : Nat, aw = some ⟨bw, ow, none⟩ ∧ wr.cell? ⟨bw, ow + m * 2, none⟩ = some (.int .i64 (at_ : Int)) ∧ wr.cell? ⟨bw, ow + m * 2 + 1, none⟩ = some (.slice (some ⟨ad, od, none⟩) 16 cd) ∧
      Calls Try.prog 109 #[.slice (some ⟨g, 0, none⟩) ys.length cap, wv (at_ : Int) (some ⟨ad, od, none⟩) 16 cd, .int .i64 (t : Int)] wr fun e w' => ∃ g2 cap2, e = .returned (.slice (some ⟨g2, 0, none⟩) (putD ys ws[m] t).length cap2) ∧ Owns w' B (.slice (some ⟨g2, 0, none⟩) (putD ys ws[m] t).length cap2) (putD ys ws[m] t) ∧ Below wr.heap.size wr w' := by
  obtain ⟨bw, ow, rfl, e0, ad, cd, e1, hmm, rd⟩ := hW.2 m hm
  obtain ⟨n, s, hpd, hn127, hs16⟩ := okW_shape hok
  rw [hpd] at e0 e1 rd hmm ⊢
  simp only at e0 e1 rd hmm
  rw [hs16] at e1 rd hmm
  obtain ⟨bd, od, rfl, _⟩ := rd.2 0 (by omega)
  refine ⟨bw, ow, n, bd, od, cd, rfl, e0, e1, ?_⟩
  refine (l02Put_any g 0 ys.length cap ys n s bd od cd t wr (row_of_owns hO) hl hl16 hn127 hs16 rd hmm.2 ht).mono ?_
  rintro e w' ⟨g2, cap2, rfl, ho, hb⟩
  have hlen := putD_len ys ⟨(n : Int), s⟩ t hs16 ht
  simp only [Int.toNat_natCast] at hlen
  rw [← hlen] at ho ⊢
  exact ⟨g2, cap2, rfl, owns_mono ho hB, hb⟩
theorem keptD_ok {ws : List WD} (h : ∀ d ∈ ws, okW d = true) (m : Nat) (ks : List Bool) : ∀ d ∈ keptD (ws.take m) ks, okW d = true := fun d hd => h d (List.mem_of_mem_take (keptD_mem _ _ d hd))
set_option maxRecDepth 100000 in
set_option maxHeartbeats 4000000 in
theorem l02Crash_any (b off n c : Nat) (aw : Option Addr) (nw cw : Nat) (ak : Option Addr) (nk ck : Nat) (ks : List Bool) (xs : List Int) (ws : List WD) (t : Nat) (w : World) (hR : Row w (some ⟨b, off, none⟩) n xs) (hW : WRow w aw nw ws) (hK : BRow w ak nk ks) (hn : n ≤ 2048) (h16 : n % 16 = 0) (hnw : nw ≤ 4096) (hnk : nk ≤ 4611686018427387904) (hall : ∀ d ∈ ws, okW d = true) (ht : t ≤ 16) :
    Calls Try.prog 97 #[fv (some ⟨b, off, none⟩) n c aw nw cw, .slice ak nk ck, .int .i64 (t : Int)] w fun e w' => ∃ g cap, e = .returned (fv (some ⟨g, 0, none⟩) (crashD xs ws ks t).length cap none 0 0) ∧ Owns w' w.heap.size (.slice (some ⟨g, 0, none⟩) (crashD xs ws ks t).length cap) (crashD xs ws ks t) ∧ Below w.heap.size w w' := by
  obtain ⟨i0, hi, hz0, hz1, hz2⟩ := info_parts Try.infoU8
  have hxl := hR.1
  have hb0 : ∀ o1 o2 o3, Below w.heap.size w (((w.alloc o1).alloc o2).alloc o3) := fun o1 o2 o3 => (((Below.refl _ _).alloc (Nat.le_refl _) _).alloc (by simp) _).alloc (by simp; omega) _
  have hO : ∀ o1 o2, (((w.alloc o1).alloc o2).alloc (.cells #[] 5)).ownsRow (w.heap.size + 1 + 1) 5 1 (.slice (some ⟨w.heap.size + 1 + 1, 0, none⟩) 0 0) 0 [] := fun o1 o2 => by
    have := World.ownsRow_lit (base := w.heap.size + 1 + 1) (e := 5) (size := 1) ((w.alloc o1).alloc o2) #[] 0 (by simp) (by unfold maxLen; simp) rfl
    simpa using this
  have HR := hide hR
  have HW := hide hW
  have HK := hide hK
  have HA := hide hall
  clear hR hW hK hall
  go_enter Try.func97, Try.ntmps97
  go_wp2_with (at_builtin; refine wpList_append_own _ rfl _ _ 22 rfl (w.heap.size + 1 + 1) 5 i0 (.int .u8 0) 1 1 Try.underlying22 hi hz0 hz1 hz2 rfl (by decide) _ 0 [] rfl (hO _ _) ⟨b, off, none⟩ n c (xs.map (Value.int .u8)) rfl (by simp [hxl]) (row_cells (by rw [hxl]; exact row_grow (unhide HR) (hb0 _ _ _))) (all_u8 xs) (by unfold maxLen; omega) (by omega) (by simp) ?_)
  intro v1 w1 hown hgrow hnil
  have O1 : Owns w1 (w.heap.size + 1 + 1) v1 xs := by
    unfold Owns
    rw [hxl]
    simpa using hown
  obtain ⟨g, cap, rfl, hg, hgl, hc1, hc2⟩ := owns_form O1 (fun e => hnil e)
  have B1 : Below w.heap.size w w1 := (hb0 _ _ _).grown hgrow (by simp; omega) (fun k hk => by cases hk; simp; omega)
  have e1 := hgrow.block w.heap.size (by simp; omega) (by simp [Value.ownBlock]; omega)
  have e2 := hgrow.block (w.heap.size + 1) (by simp) (by simp [Value.ownBlock])
  have p1 : w1.cell? ⟨w.heap.size, 1, none⟩ = some (.slice aw nw cw) := by
    rw [World.cell?_of_block (a := ⟨w.heap.size, 1, none⟩) e1]
    exact (cell_old (by simp; omega)).trans ((cell_old (by simp)).trans ((cell_new rfl).trans rfl))
  have q0 : w1.cell? ⟨w.heap.size + 1, 0, none⟩ = some (.slice none 0 0) := by
    rw [World.cell?_of_block (a := ⟨w.heap.size + 1, 0, none⟩) e2]
    exact (cell_old (by simp)).trans ((cell_new (by simp)).trans rfl)
  have q1 : w1.cell? ⟨w.heap.size + 1, 1, none⟩ = some (.slice none 0 0) := by
    rw [World.cell?_of_block (a := ⟨w.heap.size + 1, 1, none⟩) e2]
    exact (cell_old (by simp)).trans ((cell_new (by simp)).trans rfl)
  have qf : ∀ j, w1.frozen? ⟨w.heap.size + 1, j, none⟩ = false := fun j => by
    simp only [World.frozen?, e2]
    exact (frozen_old (by simp)).trans (frozen_new (by simp))
  have hs1 : w.heap.size + 1 + 1 ≤ w1.heap.size := by have := hgrow.size; simp at this; omega
  have OO := hide O1
  have QF := hide qf
  clear hown hgrow hnil hb0 hO O1 hg hgl hc1 hc2 e1 e2 qf
  subst hxl
  have hkl := hide (unhide HK).1
  have hwl := hide (unhide HW).1
  go_wp2_with fail
  go_loop [8, 9] (fun l i => ∃ k : Nat, k ≤ nw ∧ k ≤ nk ∧ i = .int .i64 k ∧ l = .int .i64 (lastI ks k)) (fun _ i => nw - (intOf i).toNat)
  case atStart => exact ⟨0, Nat.zero_le _, Nat.zero_le _, rfl, rfl⟩
  case round =>
    obtain ⟨k, hk1, hk2, rfl, rfl⟩ := hrel
    by_cases hlt : k < nw ∧ k < nk
    · obtain ⟨hlt1, hlt2⟩ := hlt
      obtain ⟨bk, ok, rfl, ek⟩ := ((unhide HK).grow B1).2 k hlt2
      by_cases hf : ks.getD k false = true
      · have HL := hide (show lastI ks (k + 1) = (k : Int) by simp only [lastI]; rw [if_pos hf])
        rw [hf] at ek
        clear hf
        go_wp2_with fail
        go_round
        case rel => exact ⟨k + 1, by omega, by omega, by go_num, by rw [unhide HL]⟩
        case measure => simp [intOf]; omega
      · have HL := hide (show lastI ks (k + 1) = lastI ks k by simp only [lastI]; rw [if_neg hf])
        have hf : ks.getD k false = false := by simpa using hf
        rw [hf] at ek
        clear hf
        go_wp2_with fail
        go_round
        case rel => exact ⟨k + 1, by omega, by omega, by go_num, by rw [unhide HL]⟩
        case measure => simp [intOf]; omega
    · have hmin : k = min ws.length ks.length := by rw [unhide hwl, unhide hkl]; omega
      have hbd := lastI_bd ks k
      by_cases hL : lastI ks k = -1
      · have HC := hide (crashD_none (b := xs) (t := t) (ws := ws) (ks := ks) (by rw [← hmin]; exact hL))
        have f0 := unhide QF 0
        have f1 := unhide QF 1
        rw [hL]
        clear hL hmin hbd
        by_cases hlt1 : k < nw
        all_goals
          go_wp2_with fail
          refine wp_loop_rounds 1 ?_
          rw [rounds_succ]
          go_wp2_with fail
          have R1 := hide (owns_mono (owns_set (owns_set (unhide OO) (show w.heap.size + 1 < w.heap.size + 1 + 1 by omega) 0 (.slice (some ⟨g, 0, none⟩) xs.length cap)) (show w.heap.size + 1 < w.heap.size + 1 + 1 by omega) 1 (.slice none 0 0)) (show w.heap.size ≤ w.heap.size + 1 + 1 by omega))
          have R2 := hide ((B1.setCell (p := ⟨w.heap.size + 1, 0, none⟩) (by simp) (.slice (some ⟨g, 0, none⟩) xs.length cap)).setCell (p := ⟨w.heap.size + 1, 1, none⟩) (by simp) (.slice none 0 0))
          refine bodyPost_ret (v := fv (some ⟨g, 0, none⟩) xs.length cap none 0 0) (by simp [results, Try.results97, go_sem, q0, q1]) rfl ⟨g, cap, by rw [unhide HC], by rw [unhide HC]; exact unhide R1, unhide R2⟩
      · obtain ⟨j, hj⟩ : ∃ j : Nat, lastI ks k = (j : Int) := ⟨(lastI ks k).toNat, by omega⟩
        have hjw : j < ws.length := by rw [unhide hwl]; omega
        have HC := hide (crashD_last (b := xs) (t := t) (ws := ws) (ks := ks) (by rw [← hmin]; exact hj) hjw)
        have hjk : j < k := by omega
        have HF := hide (keptD_last ws ks k j (by omega) (by omega) hj hjw).2.1
        rw [hj]
        clear hL hmin hbd hj
        by_cases hlt1 : k < nw
        all_goals
          go_wp2_with fail
          go_loopw [7, 10] (fun o i wr => ∃ (m g cap : Nat) (ys : List Int), m ≤ j + 1 ∧ i = .int .i64 m ∧ o = .slice (some ⟨g, 0, none⟩) ys.length cap ∧ Hid (ys = readD xs (keptD (ws.take (min m j)) (ks.take (min m j)))) ∧ Hid (Owns wr (w.heap.size + 1 + 1) (.slice (some ⟨g, 0, none⟩) ys.length cap) ys) ∧ Below (w.heap.size + 1 + 1) w1 wr) (fun _ i _ => j + 1 - (intOf i).toNat)
          case atStart => exact ⟨0, g, cap, xs, Nat.zero_le _, rfl, rfl, by show xs = _; simp [keptD, readD], unhide OO, Below.refl _ _⟩
          case round =>
            clear OO
            obtain ⟨m, g, cap, ys, hm, rfl, rfl, hy, hO, hb⟩ := hrel
            have hbw : Below w.heap.size w wr := B1.trans (hb.mono (by omega))
            have p1 := (hb.cell (p := ⟨w.heap.size, 1, none⟩) (show w.heap.size < w.heap.size + 1 + 1 by omega)).trans p1
            have hsr : w.heap.size + 1 + 1 ≤ wr.heap.size := Nat.le_trans hs1 hb.size
            have hyb := readD_bounds xs (keptD (ws.take (min m j)) (ks.take (min m j))) h16 hn (keptD_ok (unhide HA) _ _)
            rw [← unhide hy] at hyb
            by_cases hmj : m < j
            · have hmw : m < ws.length := by omega
              have hmk : m < nk := by omega
              obtain ⟨bk, ok, rfl, ek⟩ := ((unhide HK).grow hbw).2 m hmk
              have SN := hide (keptD_snoc ws ks m hmw (by rw [unhide hkl]; exact hmk))
              have eg : ks[m]'(by rw [unhide hkl]; exact hmk) = ks.getD m false := by simp [List.getD, show m < ks.length by rw [unhide hkl]; exact hmk]
              rw [eg] at SN
              have hmn : min m j = m := by omega
              rw [hmn] at hy
              by_cases hf : ks.getD m false = true
              · rw [hf] at ek SN
                obtain ⟨bw, ow, at_, ad, od, cd, rfl, e0, e1, hC⟩ := put_elem ((unhide HW).below hbw) m hmw (unhide HA _ (List.getElem_mem hmw)) 16 (Nat.le_refl _) _ hsr g cap ys (unhide hO) hyb.2 hyb.1
                have HS := hide (show putD ys ws[m] 16 = readD xs (keptD (ws.take (min (m + 1) j)) (ks.take (min (m + 1) j))) by
                  rw [show min (m + 1) j = m + 1 by omega, unhide SN, if_pos rfl, readD_append, ← unhide hy]; rfl)
                have HP := hide hC
                clear hC hf eg SN hmn hyb
                go_wp2_with fail
                refine (unhide HP).mono ?_
                rintro e w2 ⟨g2, cap2, rfl, hO2, hb2⟩
                have B2 := hide (hb.trans (hb2.mono hsr))
                have O2 := hide hO2
                clear hO2 hb2 HP
                generalize putD ys ws[m] 16 = zs at *
                go_wp2_with fail
                go_roundw
                case rel => exact ⟨m + 1, g2, cap2, zs, by omega, by go_num, rfl, unhide HS, unhide O2, unhide B2⟩
                case measure => simp [intOf]; omega
              · have hf : ks.getD m false = false := by simpa using hf
                rw [hf] at ek SN
                have HS := hide (show ys = readD xs (keptD (ws.take (min (m + 1) j)) (ks.take (min (m + 1) j))) by
                  rw [show min (m + 1) j = m + 1 by omega, unhide SN, if_neg (by decide), List.append_nil, ← unhide hy])
                clear hf eg SN hmn hyb
                go_wp2_with fail
                go_roundw
                case rel => exact ⟨m + 1, g, cap, ys, by omega, by go_num, rfl, unhide HS, unhide hO, hb⟩
                case measure => simp [intOf]; omega
            · by_cases hmj2 : m = j
              · subst hmj2
                have hmk : m < nk := by omega
                obtain ⟨bk, ok, rfl, ek⟩ := ((unhide HK).grow hbw).2 m hmk
                rw [unhide HF] at ek
                have HS := hide (show ys = readD xs (keptD (ws.take (min (m + 1) m)) (ks.take (min (m + 1) m))) by
                  have := unhide hy
                  rwa [show min m m = min (m + 1) m by omega] at this)
                clear hyb
                go_wp2_with fail
                go_roundw
                case rel => exact ⟨m + 1, g, cap, ys, by omega, by go_num, rfl, unhide HS, unhide hO, hb⟩
                case measure => simp [intOf]
              · obtain rfl : m = j + 1 := by omega
                rw [show min (j + 1) j = j by omega] at hy
                obtain ⟨bw, ow, at_, ad, od, cd, rfl, e0, e1, hC⟩ := put_elem ((unhide HW).below hbw) j hjw (unhide HA _ (List.getElem_mem hjw)) t ht _ hsr g cap ys (unhide hO) hyb.2 hyb.1
                have HP := hide hC
                rw [← unhide hy] at HC
                clear hC hyb
                have f0 := (hb.frozen (p := ⟨w.heap.size + 1, 0, none⟩) (by simp)).trans (unhide QF 0)
                have f1 := (hb.frozen (p := ⟨w.heap.size + 1, 1, none⟩) (by simp)).trans (unhide QF 1)
                have q0 := (hb.cell (p := ⟨w.heap.size + 1, 0, none⟩) (by simp)).trans q0
                have q1 := (hb.cell (p := ⟨w.heap.size + 1, 1, none⟩) (by simp)).trans q1
                go_wp2_with fail
                refine (unhide HP).mono ?_
                rintro e w2 ⟨g2, cap2, rfl, hO2, hb2⟩
                have q0 := (hb2.cell (p := ⟨w.heap.size + 1, 0, none⟩) (show w.heap.size + 1 < wr.heap.size by omega)).trans q0
                have q1 := (hb2.cell (p := ⟨w.heap.size + 1, 1, none⟩) (show w.heap.size + 1 < wr.heap.size by omega)).trans q1
                have f0 := (hb2.frozen (p := ⟨w.heap.size + 1, 0, none⟩) (show w.heap.size + 1 < wr.heap.size by omega)).trans f0
                have f1 := (hb2.frozen (p := ⟨w.heap.size + 1, 1, none⟩) (show w.heap.size + 1 < wr.heap.size by omega)).trans f1
                have B2 := hbw.trans (hb2.mono (by omega))
                have O2 := hide hO2
                have hl2 : w.heap.size + 1 < w2.heap.size := Nat.lt_of_lt_of_le (by omega) hb2.size
                clear hO2 hb2 HP hb hbw hO B1
                generalize putD ys ws[j] t = zs at *
                go_wp2_with fail
                have R1 := hide (owns_mono (owns_set (owns_set (unhide O2) (show w.heap.size + 1 < w.heap.size + 1 + 1 by omega) 0 (.slice (some ⟨g2, 0, none⟩) zs.length cap2)) (show w.heap.size + 1 < w.heap.size + 1 + 1 by omega) 1 (.slice none 0 0)) (show w.heap.size ≤ w.heap.size + 1 + 1 by omega))
                have R2 := hide ((B2.setCell (p := ⟨w.heap.size + 1, 0, none⟩) (by simp) (.slice (some ⟨g2, 0, none⟩) zs.length cap2)).setCell (p := ⟨w.heap.size + 1, 1, none⟩) (by simp) (.slice none 0 0))
                refine bodyPost_ret (v := fv (some ⟨g2, 0, none⟩) zs.length cap2 none 0 0) (by simp [results, Try.results97, go_sem, q0, q1]) rfl ⟨g2, cap2, by rw [unhide HC], by rw [unhide HC]; exact unhide R1, unhide R2⟩
end Go.Proofs.Ytocdbijmpecdgaa

namespace Go.Proofs.Ytocdbijmpecdgaa
open Go.RowKit

set_option maxHeartbeats 1000000 in
theorem implFlashOK_any (ah : Option Addr) (nh ch : Nat) (aw : Option Addr) (nw cw : Nat) (ws : List WD) (w : World) (hnh : nh ≤ maxLen) (hn : nw ≤ maxLen) (hr : WRow w aw nw ws) :
    Calls Try.prog 50 #[fv ah nh ch aw nw cw] w fun e w' => e = .returned (.bool (okD nh ws)) ∧ Below w.heap.size w w' := by
  have L := hide hr.1
  have R := hide hr.2
  clear hr
  unfold maxLen at hnh hn
  have t1 : ∀ x : Nat, (x : Int).tmod 16 = ((x % 16 : Nat) : Int) := fun x => by rw [Int.tmod_eq_emod_of_nonneg (by omega)]; omega
  have B0 : ∀ o, Below w.heap.size w (w.alloc o) := fun o => (Below.refl _ _).alloc (Nat.le_refl _) _
  by_cases h1 : nh % 16 = 0
  · have q1 : ((nh : Int).tmod 16 != 0) = false := by rw [t1, h1]; rfl
    by_cases h2 : nh ≤ 2048
    · have q2 : decide ((2048 : Int) < (nh : Int)) = false := by simp; omega
      by_cases h3 : nw ≤ 4096
      · have q3 : decide ((4096 : Int) < (nw : Int)) = false := by simp; omega
        have hF := hide (okD_all (ws := ws) (nh := nh) ⟨h1, h2, by rw [unhide L]; exact h3⟩)
        clear t1
        go_enter Try.func50, Try.ntmps50
        go_wp2_with fail
        go_loopw [25] (fun i wr => ∃ k : Nat, k ≤ nw ∧ i = .int .i64 k ∧ Hid (∀ i (hi : i < ws.length), i < k → okW ws[i] = true) ∧ Below w.heap.size w wr) (fun i _ => nw - (intOf i).toNat)
        case atStart => exact ⟨0, Nat.zero_le _, rfl, fun i _ hi => absurd hi (Nat.not_lt_zero _), B0 _⟩
        case round =>
          clear B0
          obtain ⟨k, hk, rfl, hA, hb⟩ := hrel
          by_cases hlt2 : k < nw
          · have hk2 : k < ws.length := by rw [unhide L]; exact hlt2
            obtain ⟨b, off, rfl, e0, a', c', e1, hm, _⟩ := unhide R k hk2
            have hbl : b < w.heap.size := cell_lt e0
            have d0 := (hb.cell (p := ⟨b, off + k * 2, none⟩) hbl).trans e0
            have d1 := (hb.cell (p := ⟨b, off + k * 2 + 1, none⟩) hbl).trans e1
            clear e0 e1
            replace hm := hm.1
            unfold maxLen at hm
            have hS := hide (fun (hx : okW ws[k] = true) i (hi : i < ws.length) (h : i < k + 1) => show okW ws[i] = true from if e : i = k then by subst e; exact hx else unhide hA i hi (by omega))
            have hN := hide (fun (hx : okW ws[k] = false) => (unhide hF).trans (not_all hk2 hx))
            clear hA
            generalize ws[k] = pd at *
            have hsz := hb.size
            by_cases h16 : pd.xs.length = 16
            · have q : ((pd.xs.length : Int) != 16) = false := by rw [h16]; rfl
              by_cases hin : 0 ≤ pd.at_ ∧ pd.at_ ≤ 127
              · have hS2 := hide (unhide hS (by unfold okW; exact decide_eq_true ⟨hin.1, hin.2, h16⟩))
                clear hS hN
                go_wp2_with fail
                refine (sectorNumberOK_any pd.at_ _).mono ?_
                rintro e w2 ⟨rfl, rfl⟩
                rw [decide_eq_true hin]
                go_wp2_with fail
                go_roundw
                case rel => exact ⟨k + 1, by omega, by go_num, unhide hS2, hb.alloc hsz _⟩
                case measure => simp [intOf]; omega
              · have hN2 := hide (unhide hN (by unfold okW; exact decide_eq_false (fun h => hin ⟨h.1, h.2.1⟩)))
                clear hS hN
                go_wp2_with fail
                refine (sectorNumberOK_any pd.at_ _).mono ?_
                rintro e w2 ⟨rfl, rfl⟩
                rw [decide_eq_false hin]
                go_wp2_with fail
                go_ret
                exact ⟨ret_bool (unhide hN2).symm, hb.alloc hsz _⟩
            · have q : ((pd.xs.length : Int) != 16) = true := by simp; omega
              have hN2 := hide (unhide hN (by unfold okW; exact decide_eq_false (fun h => h16 h.2.2)))
              clear hS hN
              go_wp2_with fail
              go_ret
              exact ⟨ret_bool (unhide hN2).symm, hb.alloc hsz _⟩
          · obtain rfl : k = nw := by omega
            have hT := hide ((unhide hF).trans (all_of fun i hi => unhide hA i hi (by rw [← unhide L]; exact hi)))
            go_wp2_with fail
            go_ret
            exact ⟨ret_bool (unhide hT).symm, hb⟩
      · have q3 : decide ((4096 : Int) < (nw : Int)) = true := by simp; omega
        have hF := hide (okD_bad (ws := ws) (nh := nh) (by rw [unhide L]; omega))
        clear t1
        go_enter Try.func50, Try.ntmps50
        go_wp2_with fail
        go_ret
        exact ⟨ret_bool (unhide hF).symm, B0 _⟩
    · have q2 : decide ((2048 : Int) < (nh : Int)) = true := by simp; omega
      have hF := hide (okD_bad (ws := ws) (nh := nh) (by omega))
      clear t1
      go_enter Try.func50, Try.ntmps50
      go_wp2_with fail
      go_ret
      exact ⟨ret_bool (unhide hF).symm, B0 _⟩
  · have q1 : ((nh : Int).tmod 16 != 0) = true := by rw [t1]; simp; omega
    have hF := hide (okD_bad (ws := ws) (nh := nh) (by omega))
    clear t1
    go_enter Try.func50, Try.ntmps50
    go_wp2_with fail
    go_ret
    exact ⟨ret_bool (unhide hF).symm, B0 _⟩
end Go.Proofs.Ytocdbijmpecdgaa

namespace Go.Proofs.Ytocdbijmpecdgaa
open Go.RowKit

/-- The code of a crash, and what is held behind it. -/
def fcC (xs : List Int) (ws : List WD) (ks : List Bool) (t : Int) : Int := if 4096 < ks.length then 2 else if okD xs.length ws = true then (if 0 ≤ t ∧ t ≤ 16 then 0 else 4) else 1
def fcH (xs : List Int) (ws : List WD) (ks : List Bool) (t : Int) : List Int := if fcC xs ws ks t = 0 then crashD xs ws ks t.toNat else []
theorem fc_long {xs : List Int} {ws : List WD} {ks : List Bool} {t : Int} (h : 4096 < ks.length) : fcC xs ws ks t = 2 ∧ fcH xs ws ks t = [] := by
  have e : fcC xs ws ks t = 2 := by unfold fcC; rw [if_pos h]
  exact ⟨e, by unfold fcH; rw [e]; rfl⟩
theorem fc_bad {xs : List Int} {ws : List WD} {ks : List Bool} {t : Int} (h : ¬ 4096 < ks.length) (h1 : okD xs.length ws = false) : fcC xs ws ks t = 1 ∧ fcH xs ws ks t = [] := by
  have e : fcC xs ws ks t = 1 := by unfold fcC; rw [if_neg h, h1]; rfl
  exact ⟨e, by unfold fcH; rw [e]; rfl⟩
theorem fc_range {xs : List Int} {ws : List WD} {ks : List Bool} {t : Int} (h : ¬ 4096 < ks.length) (h1 : okD xs.length ws = true) (h2 : ¬ (0 ≤ t ∧ t ≤ 16)) : fcC xs ws ks t = 4 ∧ fcH xs ws ks t = [] := by
  have e : fcC xs ws ks t = 4 := by unfold fcC; rw [if_neg h, h1, if_pos rfl, if_neg h2]
  exact ⟨e, by unfold fcH; rw [e]; rfl⟩
theorem fc_ok {xs : List Int} {ws : List WD} {ks : List Bool} {t : Nat} (h : ¬ 4096 < ks.length) (h1 : okD xs.length ws = true) (h2 : t ≤ 16) : fcC xs ws ks (t : Int) = 0 ∧ fcH xs ws ks (t : Int) = crashD xs ws ks t := by
  have e : fcC xs ws ks (t : Int) = 0 := by unfold fcC; rw [if_neg h, h1, if_pos rfl, if_pos (by omega)]
  exact ⟨e, by unfold fcH; rw [e, if_pos rfl]; simp⟩
theorem crB_len (l : List WD) (t : Nat) (ht : t ≤ 16) (hall : ∀ d ∈ l, okW d = true) (b : List Int) (hb : b.length ≤ 2048) (h16 : b.length % 16 = 0) : (crB b l t).length ≤ 2048 := by
  rcases List.eq_nil_or_concat l with rfl | ⟨K, d, rfl⟩
  · rw [crB_nil]; exact hb
  · rw [List.concat_eq_append] at hall ⊢
    rw [crB_snoc]
    obtain ⟨n, s, rfl, hn, hs⟩ := okW_shape (hall d (by simp))
    rw [putD_len _ _ _ hs ht]
    have := readD_bounds b K h16 hb (fun d hd => hall d (by simp [hd]))
    simp
    omega
theorem fcH_len (xs : List Int) (ws : List WD) (ks : List Bool) (t : Int) : (fcH xs ws ks t).length ≤ 2048 := by
  unfold fcH
  split
  · rename_i h
    unfold fcC at h
    split at h
    · cases h
    · split at h
      · rename_i ho
        split at h
        · rename_i ht
          obtain ⟨k1, k2, k3, k4⟩ := okD_parts ho
          exact crB_len _ _ (by omega) (fun d hd => k4 d (keptD_mem _ _ d hd)) xs k2 k1
        · cases h
      · cases h
  · simp
end Go.Proofs.Ytocdbijmpecdgaa

namespace Go.Proofs.Ytocdbijmpecdgaa
open Go.RowKit Go.Maps

theorem mine_set {w : World} {B b : Nat} {v : Value} {xs : List Int} (h : Mine w B v xs) (hb : b < B) (o : Nat) (u : Value) : Mine (w.setCell ⟨b, o, none⟩ u) B v xs := by
  obtain ⟨a, c, e, h1, h2, h3, h4⟩ := h
  refine ⟨a, c, e, h1, h2, h3.of_cells fun x hx p hp => World.cell?_of_block (w := w) (Below.heap_setCell _ _ _ _ (by have := (h4 x hx).1; simp; omega)), fun x hx => ⟨(h4 x hx).1, by simpa [World.setCell] using (h4 x hx).2.1, fun j => by rw [World.frozen?_setCell]; exact (h4 x hx).2.2 j⟩⟩
end Go.Proofs.Ytocdbijmpecdgaa

namespace Go.Proofs.Ytocdbijmpecdgaa
open Go.RowKit

abbrev kH (h : ImH) : Int := h.X.id
abbrev gH (h : ImH) : Bool := h.X.gone
/-- The headers' cells. -/
def hcs (R : List ImH) : List Value := gcs (R.map hr)
theorem hcs_len (R : List ImH) : (hcs R).length = R.length * 3 := by unfold hcs; rw [gcs_len, List.length_map]
/-- A row of n headers that the call owns. -/
def ROwn (w : World) (B g n cap : Nat) (R : List ImH) : Prop := R.length = n ∧ w.ownsRow B 45 3 (.slice (some ⟨g, 0, none⟩) n cap) n (hcs R)
theorem ROwn.below {w w' : World} {B g n cap : Nat} {R : List ImH} (h : ROwn w B g n cap R) (hb : Below w.heap.size w w') : ROwn w' B g n cap R := ⟨h.1, rb_ownsRow_below h.2 hb⟩
theorem ROwn.drew {w : World} {B g n cap : Nat} {R : List ImH} (h : ROwn w B g n cap R) (q : Nat) : ROwn (w.drewN q) B g n cap R := h
theorem ROwn.lt {w : World} {B g n cap : Nat} {R : List ImH} (h : ROwn w B g n cap R) : B ≤ g ∧ g < w.heap.size := h.2.lt g rfl
theorem ROwn.cap_le {w : World} {B g n cap : Nat} {R : List ImH} (h : ROwn w B g n cap R) : n ≤ cap ∧ cap ≤ maxLen := by
  rcases h.2.2 with ⟨e, _⟩ | ⟨g', cap', cur, e, _, _, h1, h2, _⟩
  · cases e
  · cases e; exact ⟨h1, h2⟩
theorem ROwn.down {w : World} {B C g n cap : Nat} {R : List ImH} (h : ROwn w B g n cap R) (hC : C ≤ B) : ROwn w C g n cap R := by
  refine ⟨h.1, h.2.1, ?_⟩
  rcases h.2.2 with ⟨e, _⟩ | ⟨g', cap', cur, e, h0, r⟩
  · cases e
  · exact .inr ⟨g', cap', cur, e, Nat.le_trans hC h0, r⟩
theorem ROwn.gowns {w : World} {B g n cap : Nat} {R : List ImH} (h : ROwn w B g n cap R) : GOwns w B (.slice (some ⟨g, 0, none⟩) n cap) (R.map hr) := by
  unfold GOwns
  rw [List.length_map, h.1]
  exact h.2
theorem ROwn.at {w : World} {B g n cap : Nat} {R : List ImH} (h : ROwn w B g n cap R) (i : Nat) (hi : i < R.length) : w.cell? ⟨g, i * 3, none⟩ = some (.int .i64 R[i].X.id) ∧ w.cell? ⟨g, i * 3 + 1, none⟩ = some (.bool R[i].X.gone) ∧ w.cell? ⟨g, i * 3 + 2, none⟩ = some (.slice (some ⟨R[i].g, 0, none⟩) R[i].X.xs.length R[i].c) := by
  have := gowns_at h.gowns i (by simpa using hi)
  simpa [hr] using this
theorem hcs_take (R : List ImH) (k : Nat) : (hcs R).take (k * 3) = hcs (R.take k) := by
  by_cases h : k ≤ R.length
  · have e : hcs R = hcs (R.take k) ++ hcs (R.drop k) := by unfold hcs; rw [← gcs_append, ← List.map_append, List.take_append_drop]
    have hl : (hcs (R.take k)).length = k * 3 := by rw [hcs_len, List.length_take]; omega
    rw [e, ← hl, List.take_left]
  · rw [List.take_of_length_le (by rw [hcs_len]; omega), List.take_of_length_le (by omega)]
theorem hcs_drop (R : List ImH) (k : Nat) (h : k ≤ R.length) : (hcs R).drop (k * 3) = hcs (R.drop k) := by
  have e : hcs R = hcs (R.take k) ++ hcs (R.drop k) := by unfold hcs; rw [← gcs_append, ← List.map_append, List.take_append_drop]
  have hl : (hcs (R.take k)).length = k * 3 := by rw [hcs_len, List.length_take]; omega
  rw [e, ← hl, List.drop_left]
theorem ROwn.take {w : World} {B g n cap : Nat} {R : List ImH} (h : ROwn w B g n cap R) (k : Nat) (hk : k ≤ n) : ROwn w B g k cap (R.take k) := by
  have hl := h.1
  refine ⟨by rw [List.length_take]; omega, by rw [hcs_len, List.length_take]; omega, ?_⟩
  rcases h.2.2 with ⟨e, _⟩ | ⟨g', cap', cur, e, h0, h1, h2, h3, h4, h5⟩
  · cases e
  · cases e
    refine .inr ⟨g, cap, cur, rfl, h0, h1, by omega, h3, h4, ?_⟩
    rw [← hcs_take, ← h5, List.take_take, Nat.min_eq_left (by omega)]
/-- The headers from a place on, as a slice expression gives them. -/
theorem ROwn.src {w : World} {B g n cap : Nat} {R : List ImH} (h : ROwn w B g n cap R) (k : Nat) (hk : k ≤ n) : ∃ A : Addr, (if cap = k then some (⟨g, 0, none⟩ : Addr) else some ⟨g, k * 3, none⟩) = some A ∧ A.block = g ∧ Hid (∀ t u, (hcs (R.drop k))[t]? = some u → w.cell? (A.add t) = some u) := by
  have hc := h.cap_le
  have hl := h.1
  by_cases e : cap = k
  · refine ⟨⟨g, 0, none⟩, by simp [e], rfl, fun t u hu => ?_⟩
    rw [List.drop_of_length_le (by omega)] at hu
    simp [hcs, gcs] at hu
  · refine ⟨⟨g, k * 3, none⟩, by simp [e], rfl, fun t u hu => ?_⟩
    rw [Addr.add_lit, ← hcs_drop R k (by omega), List.getElem?_drop] at *
    have hlt := (List.getElem?_eq_some_iff.1 hu).1
    rw [hcs_len] at hlt
    rw [h.2.cellAt _ (by omega), hu]
theorem ROwn.src0 {w : World} {B g n cap : Nat} {R : List ImH} (h : ROwn w B g n cap R) : ∀ t u, (hcs R)[t]? = some u → w.cell? ((⟨g, 0, none⟩ : Addr).add t) = some u := h.2.cells rfl
theorem ROwn.kept {w w' : World} {B g n cap r : Nat} {R : List ImH} (h : ROwn w B g n cap R) (hg : w.grownBy w' (some r)) (hne : r ≠ g) : ROwn w' B g n cap R := ⟨h.1, h.2.kept hg (by simp [Value.ownBlock]; omega)⟩
/-- Headers appended. -/
theorem ROwn.app {w : World} {B g n cap : Nat} {R : List ImH} (h : ROwn w B g n cap R) (A : Addr) (m c : Nat) (C : List ImH) (hm : C.length = m) (hsrc : ∀ t u, (hcs C)[t]? = some u → w.cell? (A.add t) = some u) (hz : n + m ≤ 1000000) (hB : B ≤ w.heap.size) :
    ∃ g' cap' w', (Builtin.append_ #[40, 40] 40 #[.slice (some ⟨g, 0, none⟩) n cap, .slice (some A) m c]).run Try.prog w = .ok (.slice (some ⟨g', 0, none⟩) (n + m) cap') w' ∧ ROwn w' B g' (n + m) cap' (R ++ C) ∧ w.grownBy w' (some g) ∧ (g' = g ∨ g' = w.heap.size) := by
  obtain ⟨i0, hi0, hz0, hz1, hz2⟩ := info_parts infoIm
  obtain ⟨v', w', hrun, ho', hg, hn, hloc⟩ := app_at (P := Try.prog) (w := w) (B := B) 40 40 45 Try.underlying40 hi0 hz0 hz1 hz2 rfl (by decide) h.2 A m c (hcs C) (by rw [hcs_len, hm]) hsrc (gcs_one _) (by unfold maxLen; omega) (by omega) hB (fun e => by cases e)
  rcases ho'.2 with ⟨e, _⟩ | ⟨g', cap', cur, rfl, h0⟩
  · exact absurd e hn
  · have ho2 : ROwn w' B g' (n + m) cap' (R ++ C) := ⟨by rw [List.length_append, h.1, hm], by unfold hcs at ho' ⊢; rw [List.map_append, gcs_append]; exact ho'⟩
    refine ⟨g', cap', w', hrun, ho2, hg, ?_⟩
    rcases hloc with e | e
    · exact .inl (by simpa [Value.ownBlock] using e)
    · exact .inr (by simpa [Value.ownBlock] using e)
/-- One header as a literal lays it. -/
theorem one_src (w : World) (x : ImH) (o : Array Value) (ho : o = #[.int .i64 x.X.id, .bool x.X.gone, .slice (some ⟨x.g, 0, none⟩) x.X.xs.length x.c]) : ∀ t u, (hcs [x])[t]? = some u → (w.alloc (.cells o 45)).cell? ((⟨w.heap.size, 0, none⟩ : Addr).add t) = some u := fun t u hu => by
  have hj : t < 3 := by simpa [hcs, gcs] using (List.getElem?_eq_some_iff.1 hu).1
  rw [Addr.add_lit, Nat.zero_add, ho]
  refine rb_cell_new rfl ?_
  match t, hj with
  | 0, _ => simpa [hcs, gcs, hr] using hu
  | 1, _ => simpa [hcs, gcs, hr] using hu
  | 2, _ => simpa [hcs, gcs, hr] using hu
/-- The cells of headers stay where their block does. -/
theorem src_kept {w w' : World} {A : Addr} {C : List ImH} (h : ∀ t u, (hcs C)[t]? = some u → w.cell? (A.add t) = some u) (hk : w'.heap[A.block]? = w.heap[A.block]?) : ∀ t u, (hcs C)[t]? = some u → w'.cell? (A.add t) = some u := fun t u hu => by
  refine (World.cell?_of_block ?_).trans (h t u hu)
  have : (A.add t).block = A.block := by unfold Addr.add; split <;> rfl
  rw [this]
  exact hk

/-- The place of a key. -/
def posH (k : Int) : List ImH → Nat
  | [] => 0
  | y :: t => if y.X.id < k then posH k t + 1 else 0
theorem posH_le (k : Int) : ∀ R : List ImH, posH k R ≤ R.length
  | [] => Nat.le_refl _
  | y :: t => by
    unfold posH
    split
    · exact Nat.succ_le_succ (posH_le k t)
    · exact Nat.zero_le _
theorem posH_lt (k : Int) : ∀ (R : List ImH) (i : Nat) (hi : i < R.length), i < posH k R → R[i].X.id < k
  | [], _, hi, _ => absurd hi (Nat.not_lt_zero _)
  | y :: t, i, hi, h => by
    unfold posH at h
    split at h
    · cases i with
      | zero => assumption
      | succ i => exact posH_lt k t i (by simpa using hi) (by omega)
    · omega
theorem posH_at (k : Int) : ∀ (R : List ImH) (hi : posH k R < R.length), ¬ R[posH k R].X.id < k
  | [], hi => absurd hi (Nat.not_lt_zero _)
  | y :: t, hi => by
    by_cases h : y.X.id < k
    · have e : posH k (y :: t) = posH k t + 1 := by rw [posH, if_pos h]
      simp only [e, List.getElem_cons_succ]
      exact posH_at k t (by rw [e] at hi; simpa using hi)
    · have e : posH k (y :: t) = 0 := by rw [posH, if_neg h]
      simp only [e, List.getElem_cons_zero]
      exact h
theorem lat_take {k : Int} {R : List ImH} {p : Nat} (hp : p = posH k R) : ∀ a ∈ R.take p, kH a < k := fun a ha => by
  obtain ⟨i, hi, rfl⟩ := List.getElem_of_mem ha
  rw [List.length_take] at hi
  rw [List.getElem_take]
  exact posH_lt k R i (by omega) (by omega)
theorem lat_eq {hs R : List ImH} {i p : Nat} (hi : i < hs.length) (h : Lat kH gH (hs.take i) R) (hp : p = posH hs[i].X.id R) (hl : p < R.length) (he : R[p].X.id = hs[i].X.id) :
    Lat kH gH (hs.take (i + 1)) (R.take p ++ ((if hs[i].X.gone then [] else [hs[i]]) ++ R.drop (p + 1))) := by
  have e : R = R.take p ++ ([R[p]] ++ R.drop (p + 1)) := by
    rw [List.singleton_append, ← List.drop_eq_getElem_cons hl, List.take_append_drop]
  have h' := h
  rw [e] at h'
  rw [List.take_succ_eq_append_getElem hi]
  refine Lat.snoc h' (lat_take hp) (fun m hm => by obtain rfl := List.mem_singleton.1 hm; exact he) (fun c hc => ?_)
  have hu := h'.up
  rw [List.pairwise_append, List.pairwise_append] at hu
  have := hu.2.1.2.2 R[p] (by simp) c hc
  show hs[i].X.id < c.X.id
  rw [← he]
  exact this
theorem lat_ne {hs R : List ImH} {i p : Nat} (hi : i < hs.length) (h : Lat kH gH (hs.take i) R) (hp : p = posH hs[i].X.id R) (hne : ∀ hl : p < R.length, R[p].X.id ≠ hs[i].X.id) :
    Lat kH gH (hs.take (i + 1)) (R.take p ++ ((if hs[i].X.gone then [] else [hs[i]]) ++ R.drop p)) := by
  have h' := h
  rw [show R = R.take p ++ ([] ++ R.drop p) by simp] at h'
  rw [List.take_succ_eq_append_getElem hi]
  refine Lat.snoc h' (lat_take hp) (fun m hm => absurd hm (List.not_mem_nil)) (fun c hc => ?_)
  by_cases hl : p < R.length
  · have h1 : ¬ R[p].X.id < hs[i].X.id := by
      have := posH_at hs[i].X.id R (by rw [← hp]; exact hl)
      simp only [← hp] at this
      exact this
    have h2 := hne hl
    rw [List.drop_eq_getElem_cons hl] at hc
    rcases List.mem_cons.1 hc with rfl | hc
    · show hs[i].X.id < R[p].X.id
      omega
    · have hu := h.up
      rw [show R = R.take p ++ (R[p] :: R.drop (p + 1)) by rw [← List.drop_eq_getElem_cons hl, List.take_append_drop], List.pairwise_append, List.pairwise_cons] at hu
      have h3 : R[p].X.id < c.X.id := hu.2.1.1 c hc
      show hs[i].X.id < c.X.id
      omega
  · rw [List.drop_of_length_le (by omega)] at hc
    exact absurd hc (List.not_mem_nil)
end Go.Proofs.Ytocdbijmpecdgaa

namespace Go.Proofs.Ytocdbijmpecdgaa
open Go.RowKit

theorem xor_top_nat (x : Nat) (h : x < 18446744073709551616) : x ^^^ 9223372036854775808 = if x < 9223372036854775808 then x + 9223372036854775808 else x - 9223372036854775808 := by
  have hm : (x ^^^ 9223372036854775808) % 9223372036854775808 = x % 9223372036854775808 := by
    have := Nat.xor_mod_two_pow (a := x) (b := 9223372036854775808) (n := 63)
    simpa using this
  have hd : (x ^^^ 9223372036854775808) / 9223372036854775808 = x / 9223372036854775808 ^^^ 1 := by
    have := Nat.xor_div_two_pow (a := x) (b := 9223372036854775808) (n := 63)
    simpa using this
  have hs := Nat.div_add_mod (x ^^^ 9223372036854775808) 9223372036854775808
  by_cases hx : x < 9223372036854775808
  · rw [if_pos hx]
    have e : x / 9223372036854775808 = 0 := by omega
    rw [e] at hd
    have e1 : (0 ^^^ 1 : Nat) = 1 := rfl
    rw [e1] at hd
    omega
  · rw [if_neg hx]
    have e : x / 9223372036854775808 = 1 := by omega
    rw [e] at hd
    have e1 : (1 ^^^ 1 : Nat) = 0 := rfl
    rw [e1] at hd
    omega
theorem and_top_nat (x : Nat) (h : x < 18446744073709551616) : x &&& 9223372036854775808 = if x < 9223372036854775808 then 0 else 9223372036854775808 := by
  have := nat_bit 63 x
  have e : (2 : Nat) ^ 63 = 9223372036854775808 := rfl
  rw [e] at this
  rw [this]
  by_cases hx : x < 9223372036854775808
  · rw [if_pos hx, show x / 9223372036854775808 = 0 from by omega]
  · rw [if_neg hx, show x / 9223372036854775808 = 1 from by omega]
theorem or_top_nat (x : Nat) (h : x < 9223372036854775808) : x ||| 9223372036854775808 = x + 9223372036854775808 := by
  rw [Nat.or_comm, nat_join 63 9223372036854775808 x rfl h, Nat.add_comm]

theorem u64_xor_top (x : Nat) (h : x < 18446744073709551616) : bits .xor .u64 (x : Int) 9223372036854775808 = if x < 9223372036854775808 then (x : Int) + 9223372036854775808 else (x : Int) - 9223372036854775808 := by
  have := u64_xor_nat x 9223372036854775808 h (by omega)
  rw [show ((9223372036854775808 : Nat) : Int) = 9223372036854775808 from rfl] at this
  rw [this, xor_top_nat x h]
  split <;> omega
theorem u64_and_top (x : Nat) (h : x < 18446744073709551616) : bits .and .u64 (x : Int) 9223372036854775808 = if x < 9223372036854775808 then 0 else 9223372036854775808 := by
  have := u64_and_nat x 9223372036854775808 h (by omega)
  rw [show ((9223372036854775808 : Nat) : Int) = 9223372036854775808 from rfl] at this
  rw [this, and_top_nat x h]
  split <;> rfl
theorem u64_or_top (x : Nat) (h : x < 9223372036854775808) : bits .or .u64 (x : Int) 9223372036854775808 = (x : Int) + 9223372036854775808 := by
  have := u64_or_nat x 9223372036854775808 (by omega) (by omega)
  rw [show ((9223372036854775808 : Nat) : Int) = 9223372036854775808 from rfl] at this
  rw [this, or_top_nat x h]
  omega
theorem u64_not (x : Nat) (h : x < 18446744073709551616) : bits .xor .u64 IntKind.u64.max (x : Int) = 18446744073709551615 - (x : Int) := by
  show IntKind.u64.wrap ((BitVec.ofInt 64 IntKind.u64.max ^^^ BitVec.ofInt 64 (x : Int)).toNat : Int) = _
  have h1 : BitVec.ofInt 64 IntKind.u64.max = BitVec.allOnes 64 := by decide
  rw [h1, BitVec.allOnes_xor, BitVec.toNat_not, ofInt_u64 x (by omega), IntKind.wrap_u64]
  omega
theorem u64_andNot_top (x : Nat) (h : x < 18446744073709551616) (h1 : 9223372036854775808 ≤ x) : bits .andNot .u64 (x : Int) 9223372036854775808 = (x : Int) - 9223372036854775808 := by
  have := u64_andNot_nat x 9223372036854775808 h (by omega)
  rw [show ((9223372036854775808 : Nat) : Int) = 9223372036854775808 from rfl] at this
  rw [this]
  have e : (18446744073709551615 - 9223372036854775808 : Nat) = 2 ^ 63 - 1 := rfl
  rw [e, Nat.and_two_pow_sub_one_eq_mod]
  have e2 : (2 : Nat) ^ 63 = 9223372036854775808 := rfl
  rw [e2]
  omega
end Go.Proofs.Ytocdbijmpecdgaa

namespace Go.Proofs.Ytocdbijmpecdgaa
open Go.RowKit

theorem anyH_skip {P : Program} {ops : Array Oper} {Q : Exit → Act → World → Prop} {md : Region.Mode} {S : World → Prop} (i d : Nat) {oi : Oper} {fuel : Nat} {listed : Array Bool} {a : Act} {w : World} (hi : ops[i]? = some oi) (hd : oi.dst = some d)
    (hs : Region.noSelect ops = true) (hf : Region.free md ops listed i = true) (hr : (Region.ready md ops listed).contains i = true)
    (hQ : ∀ c a w, Q (.panic c) (a.put (some d) undef) w → Q (.panic c) a w) (hw : Region.wanted oi (yielded ops a.tmps) = false) (hS : S w)
    (h : wpAnyH P md ops Q S fuel (listed.setIfInBounds i true) (a.put (some d) undef) w) : wpAnyH P md ops Q S (fuel + 1) listed a w := by
  rw [← hd] at h hQ
  exact wpAnyH_take hi hs hf hr hQ (.inr ⟨hw, rfl⟩) hS h
theorem anyH_take {P : Program} {ops : Array Oper} {Q : Exit → Act → World → Prop} {md : Region.Mode} {S : World → Prop} (i d : Nat) {oi : Oper} {v : Value} {fuel : Nat} {listed : Array Bool} {a : Act} {w : World} (hi : ops[i]? = some oi) (hd : oi.dst = some d)
    (hs : Region.noSelect ops = true) (hf : Region.free md ops listed i = true) (hr : (Region.ready md ops listed).contains i = true)
    (hQ : ∀ c a w, Q (.panic c) (a.put (some d) v) w → Q (.panic c) a w) (hw : Region.wanted oi (yielded ops a.tmps) = true) (hy : ∀ w, S w → (execOp a.eval oi).run P w = .ok (.value v) w) (hS : S w)
    (h : wpAnyH P md ops Q S fuel (listed.setIfInBounds i true) (a.put (some d) v) w) : wpAnyH P md ops Q S (fuel + 1) listed a w := by
  rw [← hd] at h hQ
  exact wpAnyH_take hi hs hf hr hQ (.inl ⟨hw, hy⟩) hS h
end Go.Proofs.Ytocdbijmpecdgaa

namespace Go.Proofs.Ytocdbijmpecdgaa
open Go.RowKit

theorem sc_conv {w : World} {a : Option Addr} {n c : Nat} {xs : List Int} (h : Row w a n xs) : (convert 22 9 (.slice a n c)).run Try.prog w = .ok (.string (strOfNums xs)) w := by
  by_cases hn : 0 < n
  · obtain ⟨b, off, rfl, _⟩ := h.2 0 hn
    exact run_convert_bytes_arg _ 22 5 Try.underlying22 Try.underlying5 b off n c xs h.1 (fun i hi => by
      obtain ⟨b', off', e, hc⟩ := h.2 i hi
      cases e
      exact hc) 9 Try.underlying9
  · obtain rfl : n = 0 := by omega
    obtain rfl : xs = [] := List.eq_nil_of_length_eq_zero h.1
    cases a with
    | none => rw [run_convert_bytes_string (P := Try.prog) w 22 9 5 none 0 c Try.underlying22 Try.underlying5 Try.underlying9]; rfl
    | some x =>
      obtain ⟨b, off, spot⟩ := x
      rw [run_convert_bytes_string (P := Try.prog) w 22 9 5 (some ⟨b, off, spot⟩) 0 c Try.underlying22 Try.underlying5 Try.underlying9]; rfl
theorem sc_back {xs : List Int} (hb : Bytes8 xs) : (strOfNums xs).data.toList.map (fun b : UInt8 => (b.toNat : Int)) = xs := by
  rw [strOfNums_data, List.map_map]
  have : ∀ x ∈ xs, ((fun b : UInt8 => (b.toNat : Int)) ∘ fun n : Int => UInt8.ofNat n.toNat) x = x := fun x hx => by
    have := bytes8_mem.1 hb x hx
    simp
    omega
  rw [List.map_congr_left this, List.map_id']
theorem sc_strs {xs ys : List Int} (hx : Bytes8 xs) (hy : Bytes8 ys) : ((strOfNums xs).toList == (strOfNums ys).toList) = decide (xs = ys) := by
  by_cases h : xs = ys
  · subst h; simp
  · rw [decide_eq_false h]
    cases hq : ((strOfNums xs).toList == (strOfNums ys).toList) with
    | false => rfl
    | true =>
      refine absurd ?_ h
      have e : (strOfNums xs).toList = (strOfNums ys).toList := by simpa using hq
      rw [ByteArray.toList_eq, ByteArray.toList_eq] at e
      rw [← sc_back hx, ← sc_back hy, e]
set_option maxHeartbeats 1000000 in
theorem scEqual_any (a1 a2 : Option Addr) (n1 c1 n2 c2 : Nat) (xs ys : List Int) (w : World) (h1 : Row w a1 n1 xs) (h2 : Row w a2 n2 ys) (hx : Bytes8 xs) (hy : Bytes8 ys) :
    Calls Try.prog 137 #[.slice a1 n1 c1, .slice a2 n2 c2] w fun e w' => e = .returned (.bool (decide (xs = ys))) ∧ w' = w := by
  have v1 := sc_conv (c := c1) h1
  have v2 := sc_conv (c := c2) h2
  have E := hide (sc_strs hx hy)
  clear h1 h2 hx hy
  generalize strOfNums xs = s1 at *
  generalize strOfNums ys = s2 at *
  go_enter Try.func137, Try.ntmps137
  go_wp2_with fail
  first | (go_quiet (fail); go_wp2_with fail) | skip
  go_ret
  exact ⟨ret_bool (unhide E), rfl⟩
theorem sc_row_take {w : World} {a : Option Addr} {n m : Nat} {xs : List Int} (h : Row w a n xs) (hm : m ≤ n) : Row w a m (xs.take m) := by
  refine ⟨by rw [List.length_take, h.1]; omega, fun i hi => ?_⟩
  obtain ⟨b, off, e, c⟩ := h.2 i (by omega)
  refine ⟨b, off, e, c.trans ?_⟩
  simp [List.getD, hi]
theorem sc_row_drop {w : World} {b off n : Nat} {xs : List Int} (h : Row w (some ⟨b, off, none⟩) n xs) (m : Nat) : Row w (some ⟨b, off + m, none⟩) (n - m) (xs.drop m) := by
  refine ⟨by rw [List.length_drop, h.1], fun i hi => ?_⟩
  obtain ⟨b', off', e, c⟩ := h.2 (m + i) (by omega)
  cases e
  refine ⟨b, off + m, rfl, ?_⟩
  rw [show off + m + i = off + (m + i) by omega, c]
  simp [List.getD]
set_option maxRecDepth 100000 in
set_option maxHeartbeats 1000000 in
theorem hasPrefix_any (a1 a2 : Option Addr) (n1 c1 n2 c2 : Nat) (xs ys : List Int) (w : World) (h1 : Row w a1 n1 xs) (h2 : Row w a2 n2 ys) (hx : Bytes8 xs) (hy : Bytes8 ys) (hc : n1 ≤ c1) (hm : c1 ≤ maxLen) (ha : a1 = none → c1 = 0) :
    Calls Try.prog 126 #[.slice a1 n1 c1, .slice a2 n2 c2] w fun e w' => e = .returned (.bool (decide (xs.take n2 = ys))) ∧ w' = w := by
  unfold maxLen at hm
  by_cases hle : n2 ≤ n1
  · have g1 : (n2 : Int) ≤ (n1 : Int) := by omega
    have g2 : (n2 : Int) ≤ (c1 : Int) := by omega
    have EQ := hide (fun cc => scEqual_any a1 a2 n2 cc n2 c2 (xs.take n2) ys w (sc_row_take h1 hle) h2 (bytes8_drop (n := 0) hx n2) hy)
    clear h1 h2 hx hy
    generalize decide (xs.take n2 = ys) = r at *
    cases a1 with
    | none =>
      obtain rfl := ha rfl
      obtain rfl : n2 = 0 := by omega
      go_enter Try.func126, Try.ntmps126
      go_wp2_with fail
      refine (unhide EQ _).mono ?_
      rintro e w1 ⟨rfl, hw⟩
      subst w1
      go_wp2_with fail
      go_ret
      exact ⟨rfl, rfl⟩
    | some x =>
      go_enter Try.func126, Try.ntmps126
      go_wp2_with fail
      refine (unhide EQ _).mono ?_
      rintro e w1 ⟨rfl, hw⟩
      subst w1
      go_wp2_with fail
      go_ret
      exact ⟨rfl, rfl⟩
  · have g1 : ¬ (n2 : Int) ≤ (n1 : Int) := by omega
    have E := hide (show decide (xs.take n2 = ys) = false from decide_eq_false fun e => by
      have := congrArg List.length e
      rw [List.length_take, h1.1, h2.1] at this
      omega)
    clear h1 h2 hx hy
    go_enter Try.func126, Try.ntmps126
    go_wp2_with fail
    go_ret
    exact ⟨ret_bool (unhide E).symm, rfl⟩
/-- append([]byte{}, s...): the copy lies in a new block. -/
theorem sc_copy {w : World} {B b off n c : Nat} {xs : List Int} (ty : TypeId) (hr : Row w (some ⟨b, off, none⟩) n xs) (hn : n ≤ 1000000) (hB : B ≤ w.heap.size) :
    ∃ g cap w', (Builtin.append_ #[22, 22] ty #[.slice (some ⟨w.heap.size, 0, none⟩) 0 0, .slice (some ⟨b, off, none⟩) n c]).run Try.prog (w.alloc (.cells #[] 5)) = .ok (.slice (some ⟨g, 0, none⟩) n cap) w' ∧ Owns w' B (.slice (some ⟨g, 0, none⟩) n cap) xs ∧ w.heap.size ≤ g ∧ Below w.heap.size w w' := by
  obtain ⟨i0, hi0, hz0, hz1, hz2⟩ := info_parts Try.infoU8
  have bA : Below w.heap.size w (w.alloc (.cells #[] 5)) := (Below.refl _ _).alloc (Nat.le_refl _) _
  have hO : Owns (w.alloc (.cells #[] 5)) w.heap.size (.slice (some ⟨w.heap.size, 0, none⟩) 0 0) [] := World.ownsRow_lit _ _ _ (Nat.le_refl _) (by unfold maxLen; simp) rfl
  obtain rfl := hr.1
  have hs : ∀ j u, (xs.map (Value.int .u8))[j]? = some u → (w.alloc (.cells #[] 5)).cell? ((⟨b, off, none⟩ : Addr).add j) = some u := fun j u hu => by
    have hj : j < xs.length := by simpa using (List.getElem?_eq_some_iff.1 hu).1
    obtain ⟨b', off', e, hc⟩ := hr.2 j hj
    cases e
    have e2 : (⟨b, off, none⟩ : Addr).add j = ⟨b, off + j, none⟩ := by unfold Addr.add; split <;> simp_all
    rw [e2, bA.cell (p := ⟨b, off + j, none⟩) (cell_lt hc), hc]
    rw [List.getElem?_map] at hu
    rw [← hu]
    simp [List.getD, hj]
  obtain ⟨v', w', hrun, ho, hg, hv⟩ := run_append_own (P := Try.prog) (w.alloc (.cells #[] 5)) w.heap.size 22 ty 5 i0 (.int .u8 0) 1 1 Try.underlying22 hi0 hz0 hz1 hz2 rfl (by decide) _ _ _ hO ⟨b, off, none⟩ xs.length c (xs.map (Value.int .u8)) (by simp) hs (all_u8 _) (by unfold maxLen; simp; omega) (by simp; omega) bA.size
  have ho' : Owns w' w.heap.size v' xs := by
    have := ho
    simp only [List.length_nil, Nat.zero_add, List.map_nil, List.nil_append] at this
    exact this
  have hb' : Below w.heap.size w w' := bA.trans ((Below.refl _ _).grown hg bA.size (fun k hk => (hO.lt k hk).1))
  rcases ho'.2 with ⟨e, _⟩ | ⟨g, cap, cur, e, hbg, r⟩
  · exfalso
    have := (hv.1 e).1
    cases this
  · subst e
    refine ⟨g, cap, w', hrun, ⟨ho'.1, .inr ⟨g, cap, cur, rfl, Nat.le_trans hB hbg, r⟩⟩, hbg, hb'⟩
/-- The same, other blocks made between. -/
theorem sc_copy2 {w : World} {C q b off n c : Nat} {xs : List Int} (ty : TypeId) (hO : Owns w C (.slice (some ⟨q, 0, none⟩) 0 0) []) (hr : Row w (some ⟨b, off, none⟩) n xs) (hn : n ≤ 1000000) (hC : C ≤ w.heap.size) :
    ∃ g cap w', (Builtin.append_ #[22, 22] ty #[.slice (some ⟨q, 0, none⟩) 0 0, .slice (some ⟨b, off, none⟩) n c]).run Try.prog w = .ok (.slice (some ⟨g, 0, none⟩) n cap) w' ∧ Owns w' C (.slice (some ⟨g, 0, none⟩) n cap) xs ∧ (g = q ∨ g = w.heap.size) ∧ w.grownBy w' (some q) := by
  obtain ⟨i0, hi0, hz0, hz1, hz2⟩ := info_parts Try.infoU8
  obtain rfl := hr.1
  have hs : ∀ j u, (xs.map (Value.int .u8))[j]? = some u → w.cell? ((⟨b, off, none⟩ : Addr).add j) = some u := fun j u hu => by
    have hj : j < xs.length := by simpa using (List.getElem?_eq_some_iff.1 hu).1
    obtain ⟨b', off', e, hc⟩ := hr.2 j hj
    cases e
    have e2 : (⟨b, off, none⟩ : Addr).add j = ⟨b, off + j, none⟩ := by unfold Addr.add; split <;> simp_all
    rw [e2, hc]
    rw [List.getElem?_map] at hu
    rw [← hu]
    simp [List.getD, hj]
  obtain ⟨v', w', hrun, ho, hg, hv, hloc⟩ := app_at (P := Try.prog) (w := w) (B := C) 22 ty 5 Try.underlying22 hi0 hz0 hz1 hz2 rfl (by decide) hO ⟨b, off, none⟩ xs.length c (xs.map (Value.int .u8)) (by simp) hs (all_u8 _) (by unfold maxLen; simp; omega) (by simp; omega) hC (fun e => by cases e)
  have ho' : Owns w' C v' xs := by
    have := ho
    simp only [List.length_nil, Nat.zero_add, List.map_nil, List.nil_append] at this
    exact this
  rcases ho'.2 with ⟨e, _⟩ | ⟨g, cap, cur, e, hbg, r⟩
  · exact absurd e hv
  · subst e
    refine ⟨g, cap, w', hrun, ho', ?_, hg⟩
    simpa [Value.ownBlock] using hloc
theorem sc_wpApp {P : Program} {ops : Array Oper} {rest : List Oper} {o : Oper} {a : Act} {w : World} {Q : Exit → Act → World → Prop}
    (hg : o.guard = none) (s x : Operand) (t : TypeId) (hop : o.op = Op.call { callee := Callee.builtin Builtin.append, args := #[s, x], argTypes := #[t, t] })
    (vs vx v' : Value) (w' : World) (hs : a.eval s = vs) (hx : a.eval x = vx) (hrun : (Builtin.append_ #[t, t] o.type #[vs, vx]).run P w = .ok v' w') (h : wpList P ops Q rest (a.put o.dst v') w') :
    wpList P ops Q (o :: rest) a w :=
  wpList_plain hg fun _ hK => by
    unfold Oper.wp
    simp [execOp, hop, resolve, invoke, builtin, hs, hx, hrun, Result.andThen]
    exact hK _ _ h
theorem sc_stepApp {P : Program} {ops : Array Oper} {o : Oper} {a : Act} {w : World} {K : Act → World → Prop} {Q : Exit → Act → World → Prop} {E : Prop}
    (hg : o.guard = none) (s x : Operand) (t : TypeId) (hop : o.op = Op.call { callee := Callee.builtin Builtin.append, args := #[s, x], argTypes := #[t, t] })
    (vs vx v' : Value) (w' : World) (hs : a.eval s = vs) (hx : a.eval x = vx) (hrun : (Builtin.append_ #[t, t] o.type #[vs, vx]).run P w = .ok v' w') (hK : K (a.put o.dst v') w') :
    if Region.wanted o (yielded ops a.tmps) = true then Oper.wp P o a w K Q else E := by
  have hw : Region.wanted o (yielded ops a.tmps) = true := by simp [Region.wanted, hg]
  rw [if_pos hw]
  unfold Oper.wp
  simp [execOp, hop, resolve, invoke, builtin, hs, hx, hrun, Result.andThen]
  exact hK
theorem sc_eql_nil (w : World) (x : Addr) (n c : Nat) : (binOp .eql 22 (.slice (some x) n c) (.slice none 0 0)).run Try.prog w = .ok (.bool false) w := by
  have e0 : ∀ d, (Op.equalIn (d + 1) 22 (.slice (some x) n c) (.slice none 0 0)).run Try.prog w = .ok false w := fun d => by simp [Op.equalIn, run_underlying Try.underlying22]
  simp only [binOp]
  simp [show Op.equal 22 (.slice (some x) n c) (.slice none 0 0) = Op.equalIn (9999 + 1) 22 (.slice (some x) n c) (.slice none 0 0) from rfl, e0 9999]
set_option maxRecDepth 100000 in
set_option maxHeartbeats 1000000 in
theorem clone_any (b off n c : Nat) (xs : List Int) (w : World) (hr : Row w (some ⟨b, off, none⟩) n xs) (hn : n ≤ 1000000) :
    Calls Try.prog 95 #[.slice (some ⟨b, off, none⟩) n c] w fun e w' => ∃ g cap, e = .returned (.slice (some ⟨g, 0, none⟩) n cap) ∧ Owns w' w.heap.size (.slice (some ⟨g, 0, none⟩) n cap) xs ∧ Below w.heap.size w w' := by
  obtain ⟨g, cap, w', hrun, ho, _, hb⟩ := sc_copy (c := c) (B := w.heap.size) 22 hr hn (Nat.le_refl _)
  have Z := hide (And.intro ho hb)
  have hnil := sc_eql_nil w ⟨b, off, none⟩ n c
  clear ho hb hr
  go_enter Try.func95, Try.ntmps95
  go_wp2_with (at_builtin; refine sc_wpApp rfl (.tmp 5) (.tmp 6) 22 rfl _ _ _ w' rfl rfl hrun ?_)
  go_ret
  exact ⟨g, cap, rfl, (unhide Z).1, (unhide Z).2⟩
theorem sc_or_two (x y : Int) (hx : 0 ≤ x ∧ x ≤ 255) (hy : 0 ≤ y ∧ y ≤ 255) : bits .or .i64 (x * 256) y = x * 256 + y := by
  obtain ⟨a, rfl⟩ := Int.eq_ofNat_of_zero_le hx.1
  obtain ⟨b, rfl⟩ := Int.eq_ofNat_of_zero_le hy.1
  show IntKind.i64.wrap ((BitVec.ofInt 64 ((a : Int) * 256) ||| BitVec.ofInt 64 (b : Int)).toNat : Int) = _
  have e1 : (BitVec.ofInt 64 ((a : Int) * 256)).toNat = a * 256 := by rw [BitVec.toNat_ofInt]; omega
  have e2 : (BitVec.ofInt 64 (b : Int)).toNat = b := by rw [BitVec.toNat_ofInt]; omega
  rw [BitVec.toNat_or, e1, e2, nat_join 8 (a * 256) b (by omega) (by omega), IntKind.wrap_i64]
  omega
set_option maxHeartbeats 1000000 in
theorem scTwo_any (a : Option Addr) (n c at_ : Nat) (xs : List Int) (w : World) (h : Row w a n xs) (hb : Bytes8 xs) (hat : at_ + 1 < n) (hn : n ≤ 1000000000) :
    Calls Try.prog 125 #[.slice a n c, .int .i64 at_] w fun e w' => e = .returned (.int .i64 (xs.getD at_ 0 * 256 + xs.getD (at_ + 1) 0)) ∧ Below w.heap.size w w' := by
  obtain ⟨b, off, rfl, c0⟩ := h.2 at_ (by omega)
  obtain ⟨b', off', e, c1⟩ := h.2 (at_ + 1) (by omega)
  cases e
  have x0 := getD_bytes hb at_
  have x1 := getD_bytes hb (at_ + 1)
  have hor := sc_or_two _ _ x0 x1
  generalize xs.getD at_ 0 = u at *
  generalize xs.getD (at_ + 1) 0 = v at *
  have h0 : (0 : Int) ≤ (at_ : Int) := by omega
  have h1 : (at_ : Int) < (n : Int) := by omega
  have h2 : (at_ : Int) + 1 < (n : Int) := by omega
  have w1 : IntKind.i64.wrap ((at_ : Int) + 1) = (at_ : Int) + 1 := by rw [IntKind.wrap_i64]; omega
  have w2 : IntKind.i64.wrap u = u := by rw [IntKind.wrap_i64]; omega
  have w3 : IntKind.i64.wrap v = v := by rw [IntKind.wrap_i64]; omega
  have w4 : IntKind.i64.wrap (u * 256) = u * 256 := by rw [IntKind.wrap_i64]; omega
  have w5 : ((at_ : Int) + 1).toNat = at_ + 1 := by omega
  clear h hb
  go_enter Try.func125, Try.ntmps125
  go_wp2_with fail
  go_quiet (fail)
  go_wp2_with fail
  go_ret
  exact ⟨rfl, bel_drewN (Below.refl _ _) _⟩
end Go.Proofs.Ytocdbijmpecdgaa

namespace Go.Proofs.Ytocdbijmpecdgaa
open Go.RowKit

/-- What l03Latest hands back. -/
def LtRes (hs : List ImH) (w : World) (e : Ending) (w' : World) : Prop := ∃ g n cap R, e = .returned (.slice (some ⟨g, 0, none⟩) n cap) ∧ ROwn w' w.heap.size g n cap R ∧ Lat kH gH hs R ∧ Below w.heap.size w w' ∧ R.length ≤ hs.length
theorem lts_cells {w : World} {a : Option Addr} {n : Nat} {hs : List ImH} (hR : GRow w a n (hs.map hr)) (i : Nat) (hi : i < hs.length) : ∃ b off, a = some ⟨b, off, none⟩ ∧ b < w.heap.size ∧ w.cell? ⟨b, off + i * 3, none⟩ = some (.int .i64 hs[i].X.id) ∧ w.cell? ⟨b, off + i * 3 + 1, none⟩ = some (.bool hs[i].X.gone) ∧ w.cell? ⟨b, off + i * 3 + 2, none⟩ = some (.slice (some ⟨hs[i].g, 0, none⟩) hs[i].X.xs.length hs[i].c) := by
  obtain ⟨b, off, e, c0, c1, c2⟩ := hR.2 i (by simpa using hi)
  exact ⟨b, off, e, cell_lt c0, by simpa [hr] using c0, by simpa [hr] using c1, by simpa [hr] using c2⟩
set_option maxRecDepth 100000 in
set_option maxHeartbeats 8000000 in
theorem l03Latest_any (a : Option Addr) (n c : Nat) (hs : List ImH) (w : World) (hR : GRow w a n (hs.map hr)) (hn : n ≤ 100000) :
    Calls Try.prog 63 #[.slice a n c] w fun e w' => LtRes hs w e w' := by
  have LN := hide (show hs.length = n by simpa using hR.1)
  have RW := hide (fun u (hu : Below w.heap.size w u) => lts_cells (GRow.below hR hu))
  have H0 := hide (show ROwn (w.alloc (.cells #[] 45)) w.heap.size w.heap.size 0 0 [] from ⟨rfl, World.ownsRow_lit _ _ _ (Nat.le_refl _) (by unfold maxLen; simp) rfl⟩)
  have B0 := hide (show Below w.heap.size w (w.alloc (.cells #[] 45)) from (Below.refl _ _).alloc (Nat.le_refl _) _)
  clear hR
  go_enter Try.func63, Try.ntmps63
  go_wp2_with fail
  go_loopw [3, 4] (fun o ii wr => ∃ (i g m cap : Nat) (R : List ImH), o = .slice (some ⟨g, 0, none⟩) m cap ∧ ii = .int .i64 (i : Int) ∧ i ≤ n ∧ m ≤ i ∧ Hid (Lat kH gH (hs.take i) R) ∧ Hid (ROwn wr w.heap.size g m cap R) ∧ Hid (Below w.heap.size w wr)) (fun _ ii _ => n - (intOf ii).toNat)
  case atStart => exact ⟨0, w.heap.size, 0, 0, [], rfl, rfl, Nat.zero_le _, Nat.le_refl _, Lat.nil _ _, unhide H0, unhide B0⟩
  case round =>
    clear H0 B0
    obtain ⟨i, g, m, cap, R, rfl, rfl, hi, hm, hL, hO, hB⟩ := hrel
    by_cases hin : i < n
    · have hih : i < hs.length := by rw [unhide LN]; exact hin
      obtain ⟨b, off, ha, hbl, -, -, -⟩ := unhide RW wr (unhide hB) i hih
      have RX := hide (fun u (hu : Below w.heap.size w u) => show u.cell? ⟨b, off + i * 3, none⟩ = some (.int .i64 hs[i].X.id) ∧ u.cell? ⟨b, off + i * 3 + 1, none⟩ = some (.bool hs[i].X.gone) ∧ u.cell? ⟨b, off + i * 3 + 2, none⟩ = some (.slice (some ⟨hs[i].g, 0, none⟩) hs[i].X.xs.length hs[i].c) by
        obtain ⟨b', off', ha', _, h0, h1, h2⟩ := unhide RW u hu i hih
        rw [ha] at ha'
        injection ha' with ha'
        injection ha' with e1 e2
        subst e1 e2
        exact ⟨h0, h1, h2⟩)
      clear RW
      subst ha
      go_wp2_with fail
      go_loopw [5] (fun kk wq => ∃ (k : Nat), kk = .int .i64 (k : Int) ∧ k ≤ posH hs[i].X.id R ∧ Hid (ROwn wq w.heap.size g m cap R) ∧ Hid (Below w.heap.size w wq)) (fun kk _ => m - (intOf kk).toNat)
      case atStart => exact ⟨0, rfl, Nat.zero_le _, unhide hO, unhide hB⟩
      case round =>
        clear hO hB
        obtain ⟨k, rfl, hk, hQ, hQB⟩ := hrel
        have hmR := (unhide hQ).1
        have PL := posH_le hs[i].X.id R
        obtain ⟨x0, x1, x2⟩ := unhide RX _ (unhide hQB)
        by_cases hkp : k < posH hs[i].X.id R
        · have hkR : k < R.length := by omega
          have hkm : k < m := by omega
          have hlt := posH_lt hs[i].X.id R k hkR hkp
          obtain ⟨y0, -, -⟩ := (unhide hQ).at k hkR
          have hkp' := hide hkp
          clear hkp x1 x2 hmR PL
          generalize R[k].X.id = yv at *
          generalize hxv : hs[i].X.id = xv at *
          go_wp2_with fail
          go_quiet (fail)
          go_wp2_with fail
          go_roundw
          case rel => exact ⟨k + 1, by go_num, by have := unhide hkp'; omega, (unhide hQ).drew _, bel_drewN (unhide hQB) _⟩
          case measure => simp [intOf]; omega
        · obtain rfl : k = posH hs[i].X.id R := by omega
          have hnl := posH_at hs[i].X.id R
          have hpe : posH hs[i].X.id R = posH hs[i].X.id R := rfl
          generalize hp : posH hs[i].X.id R = p at hnl hpe hk hkp PL ⊢
          clear hpe
          by_cases hpm : p < m
          · have hpR : p < R.length := by omega
            have hnl := hnl hpR
            obtain ⟨y0, -, -⟩ := (unhide hQ).at p hpR
            have YV := hide (rfl : R[p].X.id = R[p].X.id)
            go_wp2_with fail
            go_quiet (fail)
            have OQ := hide ((unhide hQ).drew nq)
            have BQ := hide (bel_drewN (unhide hQB) nq)
            clear hQ hQB x0 x1 x2
            generalize wr.drewN nq = wq at *
            have hzq : w.heap.size ≤ wq.heap.size := (unhide BQ).size
            have hgq := (unhide OQ).lt
            have hcq := (unhide OQ).cap_le
            obtain ⟨A, hA, hAb, hsrc⟩ := (unhide OQ).src p (by omega)
            have DL := hide (show (R.drop p).length = m - p by rw [List.length_drop]; omega)
            have OL : ROwn (wq.alloc (.cells #[] 45)) wq.heap.size wq.heap.size 0 0 [] := ⟨rfl, World.ownsRow_lit _ _ _ (Nat.le_refl _) (by unfold maxLen; simp) rfl⟩
            obtain ⟨g6, cap6, w6, hrun6, O6, G6, L6⟩ := OL.app A (m - p) (cap - p) (R.drop p) (unhide DL) (src_kept (unhide hsrc) (Below.heap_alloc _ _ _ (by omega))) (by omega) (by simp)
            rw [Nat.zero_add] at hrun6 O6
            rw [List.nil_append] at O6
            have B6 := hide (((unhide BQ).alloc hzq (.cells #[] 45)).grown G6 (by simp; omega) (fun k hk => by injection hk with hk; omega))
            have OQ6 := hide (((unhide OQ).below ((Below.refl _ _).alloc (Nat.le_refl _) (.cells #[] 45))).kept G6 (by omega))
            have O6H := hide O6
            have hg6 := O6.lt
            have hgg : g ≠ g6 := by omega
            have hc6 := O6.cap_le
            obtain ⟨x0, x1, x2⟩ := unhide RX w6 (unhide B6)
            clear G6 L6 O6 OL OQ BQ hsrc
            go_upto_region 9 with (at_builtin; refine sc_wpApp rfl (.tmp 33) (.tmp 36) 40 rfl _ _ _ w6 rfl rfl hrun6 ?_)
            clear hA hrun6
            have y0 : w6.cell? ⟨g6, 0, none⟩ = some (.int .i64 R[p].X.id) := by
              have := ((unhide O6H).at 0 (by rw [unhide DL]; omega)).1
              simpa using this
            have hmp : 0 < m - p := by omega
            by_cases heq : R[p].X.id = hs[i].X.id
            · go_wp2_with fail
              go_quiet (fail)
              have O9 := hide ((unhide OQ6).drew nq)
              have O69 := hide ((unhide O6H).drew nq)
              have B9 := hide (bel_drewN (unhide B6) nq)
              have x0 : (w6.drewN nq).cell? ⟨b, off + i * 3, none⟩ = some (.int .i64 hs[i].X.id) := x0
              have x1 : (w6.drewN nq).cell? ⟨b, off + i * 3 + 1, none⟩ = some (.bool hs[i].X.gone) := x1
              have x2 : (w6.drewN nq).cell? ⟨b, off + i * 3 + 2, none⟩ = some (.slice (some ⟨hs[i].g, 0, none⟩) hs[i].X.xs.length hs[i].c) := x2
              have hg6 := (unhide O69).lt
              clear OQ6 O6H B6
              generalize w6.drewN nq = w9 at *
              obtain ⟨A1, hA1, hAb1, hsrc1⟩ := (unhide O69).src 1 (by omega)
              have S9 := hide (show ∀ t u, (hcs (R.drop (p + 1)))[t]? = some u → w9.cell? (A1.add t) = some u by have := unhide hsrc1; rwa [List.drop_drop] at this)
              clear hsrc1
              have O11 := (unhide O9).take p (by omega)
              have LT := hide (lat_eq hih (unhide hL) hp.symm hpR heq)
              have CL := hide (show (R.drop (p + 1)).length = (m - p - 1) by rw [List.length_drop]; omega)
              have hz9 : w.heap.size ≤ w9.heap.size := (unhide B9).size
              have hg9 := (unhide O9).lt
              cases hgone : hs[i].X.gone with
              | true =>
                have LT2 := hide (show Lat kH gH (hs.take (i + 1)) (R.take p ++ R.drop (p + 1)) by have := unhide LT; rw [hgone] at this; simpa using this)
                obtain ⟨g7, cap7, w7, hrun7, O7, G7, -⟩ := O11.app A1 (m - p - 1) (cap6 - 1) (R.drop (p + 1)) (unhide CL) (unhide S9) (by omega) hz9
                have B7 := hide ((unhide B9).grown G7 hz9 (fun k hk => by injection hk with hk; omega))
                have O7H := hide O7
                rw [hgone] at x1
                clear O7 G7 O11 O9 S9 B9 LT CL x0 x2
                go_wp2_with (at_builtin; refine sc_wpApp rfl (.tmp 71) (.tmp 72) 40 rfl _ _ _ w7 rfl rfl hrun7 ?_)
                go_roundw
                case rel => exact ⟨i + 1, g7, p + (m - p - 1), cap7, _, rfl, by go_num, by omega, by omega, unhide LT2, unhide O7H, unhide B7⟩
                case measure => simp [intOf]; omega
              | false =>
                have LT2 := hide (show Lat kH gH (hs.take (i + 1)) ((R.take p ++ [hs[i]]) ++ R.drop (p + 1)) by have := unhide LT; rw [hgone] at this; simpa using this)
                have hone := one_src w9 hs[i] #[.int .i64 hs[i].X.id, .bool hs[i].X.gone, .slice (some ⟨hs[i].g, 0, none⟩) hs[i].X.xs.length hs[i].c] rfl
                obtain ⟨g7, cap7, w7, hrun7, O7, G7, L7⟩ := (O11.below ((Below.refl _ _).alloc (Nat.le_refl _) (.cells #[.int .i64 hs[i].X.id, .bool hs[i].X.gone, .slice (some ⟨hs[i].g, 0, none⟩) hs[i].X.xs.length hs[i].c] 45))).app ⟨w9.heap.size, 0, none⟩ 1 1 [hs[i]] rfl hone (by omega) (by simp; omega)
                have B7 := ((unhide B9).alloc hz9 (.cells #[.int .i64 hs[i].X.id, .bool hs[i].X.gone, .slice (some ⟨hs[i].g, 0, none⟩) hs[i].X.xs.length hs[i].c] 45)).grown G7 (by simp; omega) (fun k hk => by injection hk with hk; omega)
                have S7 := src_kept (unhide S9) (w' := w7) ((G7.block _ (by simp; omega) (fun e => by injection e with e; omega)).trans (Below.heap_alloc _ _ _ (by omega)))
                have hz7 : w.heap.size ≤ w7.heap.size := B7.size
                obtain ⟨g8, cap8, w8, hrun8, O8, G8, -⟩ := O7.app A1 (m - p - 1) (cap6 - 1) (R.drop (p + 1)) (unhide CL) S7 (by omega) hz7
                have B8 := hide (B7.grown G8 hz7 (fun k hk => by injection hk with hk; have := O7.lt; omega))
                have O8H := hide O8
                rw [hgone] at x1 hrun7
                clear O8 G8 O7 G7 L7 B7 S7 O11 O9 S9 B9 LT CL hone
                go_wp2_with (at_builtin; first | refine sc_wpApp rfl (.tmp 64) (.tmp 69) 40 rfl _ _ _ w7 rfl rfl hrun7 ?_ | refine sc_wpApp rfl (.tmp 71) (.tmp 72) 40 rfl _ _ _ w8 rfl rfl hrun8 ?_)
                go_roundw
                case rel => exact ⟨i + 1, g8, p + 1 + (m - p - 1), cap8, _, rfl, by go_num, by omega, by omega, unhide LT2, unhide O8H, unhide B8⟩
                case measure => simp [intOf]; omega
            · go_wp2_with fail
              go_quiet (fail)
              have O9 := hide ((unhide OQ6).drew nq)
              have O69 := hide ((unhide O6H).drew nq)
              have B9 := hide (bel_drewN (unhide B6) nq)
              have x0 : (w6.drewN nq).cell? ⟨b, off + i * 3, none⟩ = some (.int .i64 hs[i].X.id) := x0
              have x1 : (w6.drewN nq).cell? ⟨b, off + i * 3 + 1, none⟩ = some (.bool hs[i].X.gone) := x1
              have x2 : (w6.drewN nq).cell? ⟨b, off + i * 3 + 2, none⟩ = some (.slice (some ⟨hs[i].g, 0, none⟩) hs[i].X.xs.length hs[i].c) := x2
              have hg6 := (unhide O69).lt
              clear OQ6 O6H B6
              generalize w6.drewN nq = w9 at *
              have S9 := hide (unhide O69).src0
              have hAb1 : (⟨g6, 0, none⟩ : Addr).block = g6 := rfl
              have O11 := (unhide O9).take p (by omega)
              have LT := hide (lat_ne hih (unhide hL) hp.symm (fun _ => heq))
              have CL := hide (show (R.drop p).length = (m - p) by rw [List.length_drop]; omega)
              have hz9 : w.heap.size ≤ w9.heap.size := (unhide B9).size
              have hg9 := (unhide O9).lt
              cases hgone : hs[i].X.gone with
              | true =>
                have LT2 := hide (show Lat kH gH (hs.take (i + 1)) (R.take p ++ R.drop p) by have := unhide LT; rw [hgone] at this; simpa using this)
                obtain ⟨g7, cap7, w7, hrun7, O7, G7, -⟩ := O11.app ⟨g6, 0, none⟩ (m - p) cap6 (R.drop p) (unhide CL) (unhide S9) (by omega) hz9
                have B7 := hide ((unhide B9).grown G7 hz9 (fun k hk => by injection hk with hk; omega))
                have O7H := hide O7
                rw [hgone] at x1
                clear O7 G7 O11 O9 S9 B9 LT CL x0 x2
                go_wp2_with (at_builtin; refine sc_wpApp rfl (.tmp 71) (.tmp 72) 40 rfl _ _ _ w7 rfl rfl hrun7 ?_)
                go_roundw
                case rel => exact ⟨i + 1, g7, p + (m - p), cap7, _, rfl, by go_num, by omega, by omega, unhide LT2, unhide O7H, unhide B7⟩
                case measure => simp [intOf]; omega
              | false =>
                have LT2 := hide (show Lat kH gH (hs.take (i + 1)) ((R.take p ++ [hs[i]]) ++ R.drop p) by have := unhide LT; rw [hgone] at this; simpa using this)
                have hone := one_src w9 hs[i] #[.int .i64 hs[i].X.id, .bool hs[i].X.gone, .slice (some ⟨hs[i].g, 0, none⟩) hs[i].X.xs.length hs[i].c] rfl
                obtain ⟨g7, cap7, w7, hrun7, O7, G7, L7⟩ := (O11.below ((Below.refl _ _).alloc (Nat.le_refl _) (.cells #[.int .i64 hs[i].X.id, .bool hs[i].X.gone, .slice (some ⟨hs[i].g, 0, none⟩) hs[i].X.xs.length hs[i].c] 45))).app ⟨w9.heap.size, 0, none⟩ 1 1 [hs[i]] rfl hone (by omega) (by simp; omega)
                have B7 := ((unhide B9).alloc hz9 (.cells #[.int .i64 hs[i].X.id, .bool hs[i].X.gone, .slice (some ⟨hs[i].g, 0, none⟩) hs[i].X.xs.length hs[i].c] 45)).grown G7 (by simp; omega) (fun k hk => by injection hk with hk; omega)
                have S7 := src_kept (unhide S9) (w' := w7) ((G7.block _ (by simp; omega) (fun e => by injection e with e; omega)).trans (Below.heap_alloc _ _ _ (by omega)))
                have hz7 : w.heap.size ≤ w7.heap.size := B7.size
                obtain ⟨g8, cap8, w8, hrun8, O8, G8, -⟩ := O7.app ⟨g6, 0, none⟩ (m - p) cap6 (R.drop p) (unhide CL) S7 (by omega) hz7
                have B8 := hide (B7.grown G8 hz7 (fun k hk => by injection hk with hk; have := O7.lt; omega))
                have O8H := hide O8
                rw [hgone] at x1 hrun7
                clear O8 G8 O7 G7 L7 B7 S7 O11 O9 S9 B9 LT CL hone
                go_wp2_with (at_builtin; first | refine sc_wpApp rfl (.tmp 64) (.tmp 69) 40 rfl _ _ _ w7 rfl rfl hrun7 ?_ | refine sc_wpApp rfl (.tmp 71) (.tmp 72) 40 rfl _ _ _ w8 rfl rfl hrun8 ?_)
                go_roundw
                case rel => exact ⟨i + 1, g8, p + 1 + (m - p), cap8, _, rfl, by go_num, by omega, by omega, unhide LT2, unhide O8H, unhide B8⟩
                case measure => simp [intOf]; omega
          · obtain rfl : p = m := by omega
            go_wp2_with fail
            go_quiet (fail)
            have OQ := hide ((unhide hQ).drew nq)
            have BQ := hide (bel_drewN (unhide hQB) nq)
            clear hQ hQB x0 x1 x2
            generalize wr.drewN nq = wq at *
            have hzq : w.heap.size ≤ wq.heap.size := (unhide BQ).size
            have hgq := (unhide OQ).lt
            have hcq := (unhide OQ).cap_le
            obtain ⟨A, hA, hAb, hsrc⟩ := (unhide OQ).src p (by omega)
            have DL := hide (show (R.drop p).length = 0 by rw [List.length_drop]; omega)
            have OL : ROwn (wq.alloc (.cells #[] 45)) wq.heap.size wq.heap.size 0 0 [] := ⟨rfl, World.ownsRow_lit _ _ _ (Nat.le_refl _) (by unfold maxLen; simp) rfl⟩
            obtain ⟨g6, cap6, w6, hrun6, O6, G6, L6⟩ := OL.app A 0 (cap - p) (R.drop p) (unhide DL) (src_kept (unhide hsrc) (Below.heap_alloc _ _ _ (by omega))) (by omega) (by simp)
            rw [Nat.zero_add] at hrun6 O6
            rw [List.nil_append] at O6
            have B6 := hide (((unhide BQ).alloc hzq (.cells #[] 45)).grown G6 (by simp; omega) (fun k hk => by injection hk with hk; omega))
            have OQ6 := hide (((unhide OQ).below ((Below.refl _ _).alloc (Nat.le_refl _) (.cells #[] 45))).kept G6 (by omega))
            have O6H := hide O6
            have hg6 := O6.lt
            have hgg : g ≠ g6 := by omega
            have hc6 := O6.cap_le
            obtain ⟨x0, x1, x2⟩ := unhide RX w6 (unhide B6)
            clear G6 L6 O6 OL OQ BQ hsrc
            go_upto_region 9 with (at_builtin; refine sc_wpApp rfl (.tmp 33) (.tmp 36) 40 rfl _ _ _ w6 rfl rfl hrun6 ?_)
            clear hA hrun6
            go_wp2_with fail
            go_quiet (fail)
            have O9 := hide ((unhide OQ6).drew nq)
            have O69 := hide ((unhide O6H).drew nq)
            have B9 := hide (bel_drewN (unhide B6) nq)
            have x0 : (w6.drewN nq).cell? ⟨b, off + i * 3, none⟩ = some (.int .i64 hs[i].X.id) := x0
            have x1 : (w6.drewN nq).cell? ⟨b, off + i * 3 + 1, none⟩ = some (.bool hs[i].X.gone) := x1
            have x2 : (w6.drewN nq).cell? ⟨b, off + i * 3 + 2, none⟩ = some (.slice (some ⟨hs[i].g, 0, none⟩) hs[i].X.xs.length hs[i].c) := x2
            have hg6 := (unhide O69).lt
            clear OQ6 O6H B6
            generalize w6.drewN nq = w9 at *
            have S9 := hide (unhide O69).src0
            have hAb1 : (⟨g6, 0, none⟩ : Addr).block = g6 := rfl
            have O11 := (unhide O9).take p (by omega)
            have LT := hide (lat_ne hih (unhide hL) hp.symm (fun hl => by omega))
            have CL := hide (show (R.drop p).length = 0 by rw [List.length_drop]; omega)
            have hz9 : w.heap.size ≤ w9.heap.size := (unhide B9).size
            have hg9 := (unhide O9).lt
            cases hgone : hs[i].X.gone with
            | true =>
              have LT2 := hide (show Lat kH gH (hs.take (i + 1)) (R.take p ++ R.drop p) by have := unhide LT; rw [hgone] at this; simpa using this)
              obtain ⟨g7, cap7, w7, hrun7, O7, G7, -⟩ := O11.app ⟨g6, 0, none⟩ 0 cap6 (R.drop p) (unhide CL) (unhide S9) (by omega) hz9
              have B7 := hide ((unhide B9).grown G7 hz9 (fun k hk => by injection hk with hk; omega))
              have O7H := hide O7
              rw [hgone] at x1
              clear O7 G7 O11 O9 S9 B9 LT CL x0 x2
              go_wp2_with (at_builtin; refine sc_wpApp rfl (.tmp 71) (.tmp 72) 40 rfl _ _ _ w7 rfl rfl hrun7 ?_)
              go_roundw
              case rel => exact ⟨i + 1, g7, p + 0, cap7, _, rfl, by go_num, by omega, by omega, unhide LT2, unhide O7H, unhide B7⟩
              case measure => simp [intOf]; omega
            | false =>
              have LT2 := hide (show Lat kH gH (hs.take (i + 1)) ((R.take p ++ [hs[i]]) ++ R.drop p) by have := unhide LT; rw [hgone] at this; simpa using this)
              have hone := one_src w9 hs[i] #[.int .i64 hs[i].X.id, .bool hs[i].X.gone, .slice (some ⟨hs[i].g, 0, none⟩) hs[i].X.xs.length hs[i].c] rfl
              obtain ⟨g7, cap7, w7, hrun7, O7, G7, L7⟩ := (O11.below ((Below.refl _ _).alloc (Nat.le_refl _) (.cells #[.int .i64 hs[i].X.id, .bool hs[i].X.gone, .slice (some ⟨hs[i].g, 0, none⟩) hs[i].X.xs.length hs[i].c] 45))).app ⟨w9.heap.size, 0, none⟩ 1 1 [hs[i]] rfl hone (by omega) (by simp; omega)
              have B7 := ((unhide B9).alloc hz9 (.cells #[.int .i64 hs[i].X.id, .bool hs[i].X.gone, .slice (some ⟨hs[i].g, 0, none⟩) hs[i].X.xs.length hs[i].c] 45)).grown G7 (by simp; omega) (fun k hk => by injection hk with hk; omega)
              have S7 := src_kept (unhide S9) (w' := w7) ((G7.block _ (by simp; omega) (fun e => by injection e with e; omega)).trans (Below.heap_alloc _ _ _ (by omega)))
              have hz7 : w.heap.size ≤ w7.heap.size := B7.size
              obtain ⟨g8, cap8, w8, hrun8, O8, G8, -⟩ := O7.app ⟨g6, 0, none⟩ 0 cap6 (R.drop p) (unhide CL) S7 (by omega) hz7
              have B8 := hide (B7.grown G8 hz7 (fun k hk => by injection hk with hk; have := O7.lt; omega))
              have O8H := hide O8
              rw [hgone] at x1 hrun7
              clear O8 G8 O7 G7 L7 B7 S7 O11 O9 S9 B9 LT CL hone
              go_wp2_with (at_builtin; first | refine sc_wpApp rfl (.tmp 64) (.tmp 69) 40 rfl _ _ _ w7 rfl rfl hrun7 ?_ | refine sc_wpApp rfl (.tmp 71) (.tmp 72) 40 rfl _ _ _ w8 rfl rfl hrun8 ?_)
              go_roundw
              case rel => exact ⟨i + 1, g8, p + 1 + 0, cap8, _, rfl, by go_num, by omega, by omega, unhide LT2, unhide O8H, unhide B8⟩
              case measure => simp [intOf]; omega
    · have e : i = n := by omega
      have HS := hide (show hs.take i = hs by rw [List.take_of_length_le (by rw [unhide LN]; omega)])
      go_wp2_with fail
      go_ret
      exact ⟨g, m, cap, R, rfl, unhide hO, (by have := unhide hL; rwa [unhide HS] at this), unhide hB, by have := (unhide hO).1; have := unhide LN; omega⟩
end Go.Proofs.Ytocdbijmpecdgaa
