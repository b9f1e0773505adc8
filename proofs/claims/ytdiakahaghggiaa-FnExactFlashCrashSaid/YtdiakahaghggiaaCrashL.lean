/-
  What a crash leaves: plain facts.
-/
import Derived.Test.YtdiakahaghggiaaReadD
namespace Go.Proofs.Ytdiakahaghggiaa
open Go.RowKit

/-- Those that wait whose flags are set. -/
def keptD : List WD → List Bool → List WD
  | d :: ws, k :: ks => if k = true then d :: keptD ws ks else keptD ws ks
  | _, _ => []
theorem keptD_nil (ws : List WD) : keptD ws [] = [] := by cases ws <;> rfl
theorem keptD_snoc : ∀ (ws : List WD) (ks : List Bool) (i : Nat) (h1 : i < ws.length) (h2 : i < ks.length), keptD (ws.take (i + 1)) (ks.take (i + 1)) = keptD (ws.take i) (ks.take i) ++ (if ks[i] = true then [ws[i]] else []) := by
  intro ws
  induction ws with
  | nil => intro ks i h1; simp at h1
  | cons d r ih =>
    intro ks i h1 h2
    cases ks with
    | nil => simp at h2
    | cons k ks =>
      cases i with
      | zero => cases k <;> simp [keptD, keptD_nil]
      | succ i =>
        have := ih ks i (by simpa using h1) (by simpa using h2)
        simp only [List.take_succ_cons, keptD, List.getElem_cons_succ]
        rw [this]
        cases k <;> simp
theorem keptD_min (ws : List WD) : ∀ (ks : List Bool), keptD (ws.take (min ws.length ks.length)) (ks.take (min ws.length ks.length)) = keptD ws ks := by
  induction ws with
  | nil => intro ks; cases ks <;> simp [keptD]
  | cons d r ih =>
    intro ks
    cases ks with
    | nil => simp [keptD]
    | cons k ks =>
      have e : min (d :: r).length (k :: ks).length = min r.length ks.length + 1 := by simp only [List.length_cons]; omega
      rw [e, List.take_succ_cons, List.take_succ_cons, keptD, keptD, ih ks]
theorem keptD_len (ws : List WD) : ∀ ks, (keptD ws ks).length ≤ ws.length := by
  induction ws with
  | nil => intro ks; cases ks <;> simp [keptD]
  | cons d r ih =>
    intro ks
    cases ks with
    | nil => simp [keptD]
    | cons k ks => have := ih ks; cases k <;> simp [keptD] <;> omega
theorem keptD_mem (ws : List WD) : ∀ ks, ∀ d ∈ keptD ws ks, d ∈ ws := by
  induction ws with
  | nil => intro ks d hd; cases ks <;> simp [keptD] at hd
  | cons e r ih =>
    intro ks d hd
    cases ks with
    | nil => simp [keptD] at hd
    | cons k ks =>
      cases k
      · simp [keptD] at hd; exact List.mem_cons_of_mem _ (ih ks d hd)
      · simp [keptD] at hd
        rcases hd with rfl | hd
        · exact List.mem_cons_self
        · exact List.mem_cons_of_mem _ (ih ks d hd)
/-- What is held behind k of the kept ones, the last of them torn. -/
def crAt (b : List Int) (l : List WD) (t k : Nat) : List Int := if h : k = l.length ∧ 0 < l.length then putD (readD b (l.take (k - 1))) (l[k - 1]'(by omega)) t else readD b (l.take k)
def crB (b : List Int) (l : List WD) (t : Nat) : List Int := crAt b l t l.length
theorem crAt_zero (b : List Int) (l : List WD) (t : Nat) : crAt b l t 0 = b := by
  unfold crAt
  rw [dif_neg (by omega)]; rfl
theorem crAt_mid (b : List Int) (l : List WD) (t k : Nat) (h : k + 1 < l.length) : crAt b l t (k + 1) = putD (crAt b l t k) l[k] 16 := by
  unfold crAt
  rw [dif_neg (by omega), dif_neg (by omega), readD_snoc b l k (by omega)]
theorem crAt_last (b : List Int) (l : List WD) (t k : Nat) (h : k + 1 = l.length) : crAt b l t (k + 1) = putD (crAt b l t k) (l[k]'(by omega)) t := by
  have e : crAt b l t k = readD b (l.take k) := by unfold crAt; rw [dif_neg (by omega)]
  rw [e]
  unfold crAt
  rw [dif_pos (by omega)]
  simp
/-- What a crash leaves of what is held. -/
def crashD (b : List Int) (ws : List WD) (ks : List Bool) (t : Nat) : List Int := crB b (keptD ws ks) t
/-- The last of the first k flags that is set; -1 if none is. -/
def lastI (ks : List Bool) : Nat → Int
  | 0 => -1
  | k + 1 => if ks.getD k false = true then (k : Int) else lastI ks k
theorem lastI_bd (ks : List Bool) (k : Nat) : -1 ≤ lastI ks k ∧ lastI ks k < k := by
  induction k with
  | zero => simp [lastI]
  | succ k ih =>
    simp only [lastI]
    split <;> omega
theorem keptD_none (ws : List WD) (ks : List Bool) (k : Nat) (h1 : k ≤ ws.length) (h2 : k ≤ ks.length) (h : lastI ks k = -1) : keptD (ws.take k) (ks.take k) = [] := by
  induction k with
  | zero => simp [keptD]
  | succ k ih =>
    simp only [lastI] at h
    split at h
    · omega
    · rename_i hf
      rw [keptD_snoc ws ks k (by omega) (by omega), ih (by omega) (by omega) h]
      have e : ks[k]'(by omega) = ks.getD k false := by simp [List.getD, show k < ks.length by omega]
      rw [e, if_neg hf]
      rfl
theorem keptD_last (ws : List WD) (ks : List Bool) (k j : Nat) (h1 : k ≤ ws.length) (h2 : k ≤ ks.length) (h : lastI ks k = (j : Int)) (hj : j < ws.length) : j < k ∧ ks.getD j false = true ∧ keptD (ws.take k) (ks.take k) = keptD (ws.take j) (ks.take j) ++ [ws[j]] := by
  induction k with
  | zero => exact absurd h (by simp [lastI])
  | succ k ih =>
    simp only [lastI] at h
    have e : ks[k]'(by omega) = ks.getD k false := by simp [List.getD, show k < ks.length by omega]
    split at h
    · rename_i hf
      obtain rfl : k = j := by omega
      refine ⟨by omega, hf, ?_⟩
      rw [keptD_snoc ws ks k (by omega) (by omega), e, if_pos hf]
    · rename_i hf
      obtain ⟨g1, g2, g3⟩ := ih (by omega) (by omega) h
      refine ⟨by omega, g2, ?_⟩
      rw [keptD_snoc ws ks k (by omega) (by omega), e, if_neg hf, List.append_nil, g3]
theorem crB_nil (b : List Int) (t : Nat) : crB b [] t = b := by
  unfold crB; exact crAt_zero b [] t
theorem crB_snoc (b : List Int) (K : List WD) (d : WD) (t : Nat) : crB b (K ++ [d]) t = putD (readD b K) d t := by
  unfold crB crAt
  rw [dif_pos ⟨rfl, by simp⟩]
  simp
theorem crashD_none {b : List Int} {ws : List WD} {ks : List Bool} {t : Nat} (h : lastI ks (min ws.length ks.length) = -1) : crashD b ws ks t = b := by
  unfold crashD
  rw [← keptD_min, keptD_none ws ks _ (by omega) (by omega) h, crB_nil]
theorem crashD_last {b : List Int} {ws : List WD} {ks : List Bool} {t j : Nat} (h : lastI ks (min ws.length ks.length) = (j : Int)) (hj : j < ws.length) : crashD b ws ks t = putD (readD b (keptD (ws.take j) (ks.take j))) ws[j] t := by
  unfold crashD
  rw [← keptD_min, (keptD_last ws ks _ j (by omega) (by omega) h hj).2.2, crB_snoc]
theorem readD_append (b : List Int) (l r : List WD) : readD b (l ++ r) = readD (readD b l) r := by unfold readD; rw [List.foldl_append]
end Go.Proofs.Ytdiakahaghggiaa
