/-
  The walks of CodeWord and CodeOf, the program's and the specification's.
-/
import Derived.Test.YtfehbmofnpgeoaaDoorBase
namespace Go.Proofs.YtfehbmofnpgeoaaDoor
open Go.RowKit

/-- The word of a code, its bytes. -/
def wordL : Nat → List UInt8
  | 0 => [111, 107]
  | 1 => [98, 97, 100]
  | 2 => [108, 111, 110, 103]
  | 3 => [102, 111, 114, 109]
  | 4 => [114, 97, 110, 103, 101]
  | 5 => [110, 111, 110, 101]
  | 6 => [109, 97, 110, 121]
  | 7 => [102, 117, 108, 108]
  | 8 => [115, 116, 97, 116, 101]
  | 9 => [99, 111, 110, 102, 108, 105, 99, 116]
  | 10 => [99, 108, 111, 115, 101, 100]
  | 11 => [115, 105, 122, 101]
  | 12 => [103, 111, 110, 101]
  | _ => []
def word (k : Nat) : ByteArray := ⟨(wordL k).toArray⟩

def wordI (c : Int) : ByteArray := if 0 ≤ c then word c.toNat else word 13
theorem word_out (k : Nat) (h : 13 ≤ k) : word k = ByteArray.empty := by
  obtain ⟨m, rfl⟩ : ∃ m, k = m + 13 := ⟨k - 13, by omega⟩
  rfl
theorem wordI_out {c : Int} (h : c < 0 ∨ 13 ≤ c) : wordI c = ByteArray.empty := by
  unfold wordI
  rcases h with h | h
  · rw [if_neg (by omega)]; rfl
  · rw [if_pos (by omega)]; exact word_out _ (by omega)
/-- The table of words as it lies in memory. -/
def Table (w : World) : Prop := ∀ i, i < 13 → w.cell? ⟨0, i, none⟩ = some (.string (word i))

set_option maxHeartbeats 2000000 in
theorem specWord_any (c : Int) (w : World) (_ : -9223372036854775808 ≤ c) (_ : c ≤ 9223372036854775807) :
    Calls Tryd.prog 5 #[.int .i64 c] w fun e w' => e = .returned (.string (wordI c)) ∧ Below w.heap.size w w' := by
  by_cases h0 : c < 0
  · have H := hide (wordI_out (c := c) (.inl h0))
    go_enter Tryd.func5, Tryd.ntmps5
    go_wp2
    go_ret
    exact ⟨by rw [unhide H]; rfl, (Below.refl _ _).alloc (Nat.le_refl _) _⟩
  by_cases h1 : 13 ≤ c
  · have H := hide (wordI_out (c := c) (.inr h1))
    go_enter Tryd.func5, Tryd.ntmps5
    go_wp2
    go_ret
    exact ⟨by rw [unhide H]; rfl, (Below.refl _ _).alloc (Nat.le_refl _) _⟩
  rcases (show c = 0 ∨ c = 1 ∨ c = 2 ∨ c = 3 ∨ c = 4 ∨ c = 5 ∨ c = 6 ∨ c = 7 ∨ c = 8 ∨ c = 9 ∨ c = 10 ∨ c = 11 ∨ c = 12 from by omega) with rfl | rfl | rfl | rfl | rfl | rfl | rfl | rfl | rfl | rfl | rfl | rfl | rfl
  all_goals
    go_enter Tryd.func5, Tryd.ntmps5
    go_wp2
    go_ret
    exact ⟨rfl, (Below.refl _ _).alloc (Nat.le_refl _) _⟩

set_option maxHeartbeats 2000000 in
theorem implWord_any (c : Int) (w : World) (_ : -9223372036854775808 ≤ c) (_ : c ≤ 9223372036854775807) (ht : Table w) :
    Calls Tryd.prog 6 #[.int .i64 c] w fun e w' => e = .returned (.string (wordI c)) ∧ w' = w := by
  have HT := hide ht
  clear ht
  by_cases h0 : c < 0
  · have H := hide (wordI_out (c := c) (.inl h0))
    go_enter Tryd.func6, Tryd.ntmps6
    go_wp2
    go_ret
    exact ⟨by rw [unhide H]; rfl, rfl⟩
  by_cases h1 : 13 ≤ c
  · have H := hide (wordI_out (c := c) (.inr h1))
    go_enter Tryd.func6, Tryd.ntmps6
    go_wp2
    go_ret
    exact ⟨by rw [unhide H]; rfl, rfl⟩
  obtain ⟨k, rfl⟩ := Int.eq_ofNat_of_zero_le (show 0 ≤ c by omega)
  have hc := unhide HT k (by omega)
  have H := hide (show wordI (k : Int) = word k by unfold wordI; rw [if_pos (by omega)]; rfl)
  generalize word k = wk at *
  go_enter Tryd.func6, Tryd.ntmps6
  go_wp2
  go_ret
  exact ⟨by rw [unhide H]; rfl, rfl⟩

set_option maxHeartbeats 400000 in
theorem lawCodeWord_any (c : Int) (w : World) (h1 : -9223372036854775808 ≤ c) (h2 : c ≤ 9223372036854775807) (ht : Table w) (hs : 0 < w.heap.size) :
    Calls Tryd.prog 3 #[.int .i64 c] w fun e w' => e = .returned (.bool true) ∧ Below w.heap.size w w' := by
  have HT := hide ht
  clear ht
  go_enter Tryd.func3, Tryd.ntmps3
  go_wp2_with fail
  refine (specWord_any c w h1 h2).mono ?_
  rintro e w1 ⟨rfl, hb⟩
  have HT1 := hide (show Table w1 from fun i hi => (hb.cell (p := ⟨0, i, none⟩) hs).trans (unhide HT i hi))
  go_wp2_with fail
  refine (implWord_any c w1 h1 h2 (unhide HT1)).mono ?_
  rintro e w2 ⟨rfl, rfl⟩
  generalize wordI c = x at *
  go_wp2_with fail
  go_ret
  exact ⟨rfl, hb⟩

end Go.Proofs.YtfehbmofnpgeoaaDoor
