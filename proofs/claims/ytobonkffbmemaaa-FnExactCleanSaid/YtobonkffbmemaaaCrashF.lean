/-
  What FlashCrash answers; the walk of spec.FlashCrash.
-/
import Derived.Test.YtobonkffbmemaaaCrashS
import Derived.Test.YtobonkffbmemaaaImplOK
namespace Go.Proofs.Ytobonkffbmemaaa
open Go.RowKit

/-- The code of a crash, and what is held behind it. -/
def fcC (xs : List Int) (ws : List WD) (ks : List Bool) (t : Int) : Int := if 4096 < ks.length then 2 else if okD xs.length ws = true then (if 0 ≤ t ∧ t ≤ 16 then 0 else 4) else 1
def fcH (xs : List Int) (ws : List WD) (ks : List Bool) (t : Int) : List Int := if fcC xs ws ks t = 0 then crashD xs ws ks t.toNat else []
theorem fc_long {xs : List Int} {ws : List WD} {ks : List Bool} {t : Int} (h : 4096 < ks.length) : fcC xs ws ks t = 2 ∧ fcH xs ws ks t = [] := by
  have e : fcC xs ws ks t = 2 := by unfold fcC; rw [if_pos h]
  exact ⟨e, by unfold fcH; rw [e]; rfl⟩
theorem fc_bad {xs : List Int} {ws : List WD} {ks : List Bool} {t : Int} (h : ¬ 4096 < ks.length) (h1 : okD xs.length ws = false) : fcC xs ws ks t = 1 ∧ fcH xs ws ks t = [] := by
  have e : fcC xs ws ks t = 1 := by unfold fcC; rw [if_neg h, h1]; rfl
  exact ⟨e, by unfold fcH; rw [e]; rfl⟩
theorem fc_range {xs : List Int} {ws : List WD} {ks : List Bool} {t : Int} (h : ¬ 4096 < ks.length) (h1 : okD xs.length ws = true) (h2 : ¬ (0 ≤ t ∧ t ≤ 16)) : fcC xs ws ks t = 4 ∧ fcH xs ws ks t = [] := by
  have e : fcC xs ws ks t = 4 := by unfold fcC; rw [if_neg h, h1, if_pos rfl, if_neg h2]
  exact ⟨e, by unfold fcH; rw [e]; rfl⟩
theorem fc_ok {xs : List Int} {ws : List WD} {ks : List Bool} {t : Nat} (h : ¬ 4096 < ks.length) (h1 : okD xs.length ws = true) (h2 : t ≤ 16) : fcC xs ws ks (t : Int) = 0 ∧ fcH xs ws ks (t : Int) = crashD xs ws ks t := by
  have e : fcC xs ws ks (t : Int) = 0 := by unfold fcC; rw [if_neg h, h1, if_pos rfl, if_pos (by omega)]
  exact ⟨e, by unfold fcH; rw [e, if_pos rfl]; simp⟩
theorem crB_len (l : List WD) (t : Nat) (ht : t ≤ 16) (hall : ∀ d ∈ l, okW d = true) (b : List Int) (hb : b.length ≤ 2048) (h16 : b.length % 16 = 0) : (crB b l t).length ≤ 2048 := by
  rcases List.eq_nil_or_concat l with rfl | ⟨K, d, rfl⟩
  · rw [crB_nil]; exact hb
  · rw [List.concat_eq_append] at hall ⊢
    rw [crB_snoc]
    obtain ⟨n, s, rfl, hn, hs⟩ := okW_shape (hall d (by simp))
    rw [putD_len _ _ _ hs ht]
    have := readD_bounds b K h16 hb (fun d hd => hall d (by simp [hd]))
    simp
    omega
theorem fcH_len (xs : List Int) (ws : List WD) (ks : List Bool) (t : Int) : (fcH xs ws ks t).length ≤ 2048 := by
  unfold fcH
  split
  · rename_i h
    unfold fcC at h
    split at h
    · cases h
    · split at h
      · rename_i ho
        split at h
        · rename_i ht
          obtain ⟨k1, k2, k3, k4⟩ := okD_parts ho
          exact crB_len _ _ (by omega) (fun d hd => k4 d (keptD_mem _ _ d hd)) xs k2 k1
        · cases h
      · cases h
  · simp
end Go.Proofs.Ytobonkffbmemaaa
