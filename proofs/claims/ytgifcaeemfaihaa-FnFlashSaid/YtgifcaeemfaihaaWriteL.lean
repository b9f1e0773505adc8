/-
  Bytes that are written: plain facts.
-/
import Derived.Test.YtgifcaeemfaihaaSpecRead
set_option maxRecDepth 100000
namespace Go.Proofs.Ytgifcaeemfaihaa
open Go.RowKit

/-- How long bytes are that have grown by noughts up to n, to whole sectors. -/
def fillN (m n : Nat) : Nat := if n ≤ m then m else (n + 15) / 16 * 16
theorem fillN_ge (m n : Nat) : m ≤ fillN m n ∧ n ≤ fillN m n := by unfold fillN; split <;> omega
theorem fillN_16 {m n : Nat} (h : m % 16 = 0) : fillN m n % 16 = 0 := by unfold fillN; split <;> omega
theorem fillN_le {m n : Nat} (h : m ≤ 2048) (h2 : n ≤ 2048) : fillN m n ≤ 2048 := by unfold fillN; split <;> omega
theorem fillN_more {m n c : Nat} (h : m % 16 = 0) (h1 : m ≤ c) (h2 : c < fillN m n) : c < n ∨ c % 16 ≠ 0 := by unfold fillN at h2; split at h2 <;> omega
/-- All that is read, with the bytes in it. -/
def allW (b : List Int) (at_ : Nat) (d : List Int) : List Int := putB (b ++ List.replicate (fillN b.length (at_ + d.length) - b.length) 0) at_ d
theorem fillB_len (b : List Int) (n : Nat) : (b ++ List.replicate (fillN b.length n - b.length) (0 : Int)).length = fillN b.length n := by
  have := fillN_ge b.length n
  simp; omega
theorem allW_len (b : List Int) (at_ : Nat) (d : List Int) : (allW b at_ d).length = fillN b.length (at_ + d.length) := by
  unfold allW
  rw [putB_len _ _ _ (by rw [fillB_len]; exact (fillN_ge _ _).2), fillB_len]
/-- Sector n of some bytes. -/
def secW (xs : List Int) (n : Nat) : List Int := (xs.drop (n * 16)).take 16
/-- How many sectors some bytes touch. -/
def touchN (at_ n : Nat) : Nat := if n = 0 then 0 else (at_ + n - 1) / 16 - at_ / 16 + 1
def newW (b : List Int) (at_ : Nat) (d : List Int) : List WD := (List.range (touchN at_ d.length)).map fun i => ⟨((at_ / 16 + i : Nat) : Int), secW (allW b at_ d) (at_ / 16 + i)⟩
def writeD (xs : List Int) (ws : List WD) (at_ : Nat) (d : List Int) : List WD := ws ++ newW (readD xs ws) at_ d
theorem writeD_nil (xs : List Int) (ws : List WD) (at_ : Nat) : writeD xs ws at_ [] = ws := by simp [writeD, newW, touchN]
theorem newW_len (b : List Int) (at_ : Nat) (d : List Int) : (newW b at_ d).length = touchN at_ d.length := by simp [newW]
theorem touch_more {at_ n i : Nat} (hn : 0 < n) : (at_ / 16 + i) * 16 < at_ + n ↔ i < touchN at_ n := by
  unfold touchN
  rw [if_neg (by omega)]
  omega
theorem touch_le {at_ n : Nat} (h : at_ + n ≤ 2048) : touchN at_ n ≤ 128 ∧ ∀ i, i < touchN at_ n → at_ / 16 + i ≤ 127 := by
  unfold touchN
  by_cases hn : n = 0
  · rw [if_pos hn]; exact ⟨by omega, fun i hi => by omega⟩
  · rw [if_neg hn]; exact ⟨by omega, fun i hi => by omega⟩
theorem sec_in (b : List Int) (at_ : Nat) (d : List Int) (hb : b.length % 16 = 0) (i : Nat) (hi : i < touchN at_ d.length) (hd : 0 < d.length) : (at_ / 16 + i + 1) * 16 ≤ (allW b at_ d).length := by
  have h1 := (touch_more (at_ := at_) hd).2 hi
  have h2 := (fillN_ge b.length (at_ + d.length)).2
  have h3 := fillN_16 (n := at_ + d.length) hb
  rw [allW_len]
  omega
theorem newW_ok (b : List Int) (at_ : Nat) (d : List Int) (hb : b.length % 16 = 0) (h : at_ + d.length ≤ 2048) : ∀ w ∈ newW b at_ d, okW w = true := by
  intro w hw
  unfold newW at hw
  obtain ⟨i, hi, rfl⟩ := List.mem_map.1 hw
  have hi := List.mem_range.1 hi
  have hd : 0 < d.length := by
    rcases Nat.eq_zero_or_pos d.length with h0 | h0
    · rw [h0] at hi; simp [touchN] at hi
    · exact h0
  have h1 := (touch_le h).2 i hi
  have h2 := sec_in b at_ d hb i hi hd
  unfold okW
  refine decide_eq_true ⟨Int.natCast_nonneg _, by show ((at_ / 16 + i : Nat) : Int) ≤ 127; omega, ?_⟩
  simp only [secW, List.length_take, List.length_drop]
  omega
end Go.Proofs.Ytgifcaeemfaihaa
