/-
  Sectors and bytes, as plain lists.
-/
import Derived.Test.YtdiakahaghggiaaBase
namespace Go.Proofs.Ytdiakahaghggiaa
/-- A sector of noughts. -/
def nou : List Int := List.replicate 16 0
/-- The bytes of c sectors. -/
def secBytes (c : Nat) (f : Nat → List Int) : List Int := (List.range c).flatMap f
def updS (f : Nat → List Int) (n : Nat) (s : List Int) : Nat → List Int := fun i => if i = n then s else f i
/-- A sector that waits. -/
structure WD where
  at_ : Int
  xs : List Int
/-- Some first bytes of a sector put into bytes, which grow by noughts. -/
def growD (b : List Int) (n : Nat) : List Int := b ++ List.replicate (n - b.length) 0
def putB (b : List Int) (p : Nat) (d : List Int) : List Int := b.take p ++ d ++ b.drop (p + d.length)
def putD (b : List Int) (w : WD) (n : Nat) : List Int := putB (growD b ((w.at_.toNat + 1) * 16)) (w.at_.toNat * 16) (w.xs.take n)
def readD (b : List Int) (ws : List WD) : List Int := ws.foldl (fun o w => putD o w 16) b

theorem secBytes_len (f : Nat → List Int) (h : ∀ i, (f i).length = 16) : ∀ c, (secBytes c f).length = c * 16 := by
  intro c
  induction c with
  | zero => rfl
  | succ n ih =>
    unfold secBytes at *
    rw [List.range_succ, List.flatMap_append, List.length_append, ih]
    simp [h n]
    omega
theorem secBytes_get (f : Nat → List Int) (h : ∀ i, (f i).length = 16) : ∀ c j, j < c * 16 → (secBytes c f)[j]? = (f (j / 16))[j % 16]? := by
  intro c
  induction c with
  | zero => intro j hj; omega
  | succ n ih =>
    intro j hj
    have hl := secBytes_len f h n
    have e : secBytes (n + 1) f = secBytes n f ++ f n := by
      unfold secBytes
      rw [List.range_succ, List.flatMap_append]; simp
    rw [e]
    by_cases hlt : j < n * 16
    · rw [List.getElem?_append_left (by omega), ih j hlt]
    · rw [List.getElem?_append_right (by omega), hl]
      have e1 : j / 16 = n := by omega
      have e2 : j % 16 = j - n * 16 := by omega
      rw [e1, e2]
theorem growD_get (b : List Int) (n j : Nat) : (growD b n)[j]? = if j < b.length then b[j]? else if j < n then some 0 else none := by
  unfold growD
  by_cases h : j < b.length
  · rw [if_pos h, List.getElem?_append_left h]
  · rw [if_neg h, List.getElem?_append_right (by omega), List.getElem?_replicate]
    by_cases h2 : j < n
    · rw [if_pos h2, if_pos (by omega)]
    · rw [if_neg h2, if_neg (by omega)]
theorem growD_len (b : List Int) (n : Nat) : (growD b n).length = max b.length n := by
  unfold growD; simp; omega
theorem putB_get (b : List Int) (p : Nat) (d : List Int) (h : p + d.length ≤ b.length) (j : Nat) : (putB b p d)[j]? = if p ≤ j ∧ j < p + d.length then d[j - p]? else b[j]? := by
  unfold putB
  by_cases h1 : j < p
  · rw [if_neg (by omega), List.append_assoc, List.getElem?_append_left (by simp; omega), List.getElem?_take, if_pos h1]
  · by_cases h2 : j < p + d.length
    · rw [if_pos (by omega), List.getElem?_append_left (by simp; omega), List.getElem?_append_right (by simp; omega)]
      congr 1
      simp; omega
    · rw [if_neg (by omega), List.getElem?_append_right (by simp; omega), List.getElem?_drop]
      congr 1
      simp; omega
theorem putB_len (b : List Int) (p : Nat) (d : List Int) (h : p + d.length ≤ b.length) : (putB b p d).length = b.length := by
  unfold putB; simp; omega
/-- To put a sector in the map of sectors is to put its bytes: 't' first bytes of the new one, behind them what was there. -/
theorem secBytes_put (c : Nat) (f : Nat → List Int) (h : ∀ i, (f i).length = 16) (hz : ∀ i, c ≤ i → f i = nou) (w : WD) (hx : w.xs.length = 16) (t : Nat) (ht : t ≤ 16) :
    secBytes (max c (w.at_.toNat + 1)) (updS f w.at_.toNat (w.xs.take t ++ (f w.at_.toNat).drop t)) = putD (secBytes c f) w t := by
  obtain ⟨n, hn⟩ : ∃ n, n = w.at_.toNat := ⟨_, rfl⟩
  unfold putD
  rw [← hn]
  have hu : ∀ i, (updS f n (w.xs.take t ++ (f n).drop t) i).length = 16 := by
    intro i
    unfold updS
    split
    · simp [hx, h n]; omega
    · exact h i
  have hl := secBytes_len f h c
  have hg := growD_len (secBytes c f) ((n + 1) * 16)
  have hd : (w.xs.take t).length = t := by simp [hx]; omega
  apply List.ext_getElem?
  intro j
  rw [putB_get _ _ _ (by rw [hg, hd, hl]; omega), growD_get, hl, hd]
  by_cases hj : j < max c (n + 1) * 16
  · rw [secBytes_get _ hu _ _ hj]
    by_cases hjn : j / 16 = n
    · have eu : updS f n (w.xs.take t ++ (f n).drop t) (j / 16) = w.xs.take t ++ (f n).drop t := by unfold updS; rw [if_pos hjn]
      rw [eu]
      by_cases hjt : j % 16 < t
      · rw [List.getElem?_append_left (by omega), if_pos (by omega)]
        congr 1; omega
      · rw [List.getElem?_append_right (by omega), hd, List.getElem?_drop, if_neg (by omega)]
        have e : t + (j % 16 - t) = j % 16 := by omega
        rw [e]
        by_cases hjc : j < c * 16
        · rw [if_pos hjc, secBytes_get f h c j hjc, hjn]
        · rw [if_neg hjc, if_pos (by omega), hz n (by omega)]
          rw [nou, List.getElem?_replicate, if_pos (by omega)]
    · have eu : updS f n (w.xs.take t ++ (f n).drop t) (j / 16) = f (j / 16) := by unfold updS; rw [if_neg hjn]
      rw [eu, if_neg (by omega)]
      by_cases hjc : j < c * 16
      · rw [if_pos hjc, secBytes_get f h c j hjc]
      · rw [if_neg hjc, if_pos (by omega), hz (j / 16) (by omega)]
        rw [nou, List.getElem?_replicate, if_pos (by omega)]
  · rw [List.getElem?_eq_none (by rw [secBytes_len _ hu]; omega), if_neg (by omega), if_neg (by omega), if_neg (by omega)]
theorem secBytes_put16 (c : Nat) (f : Nat → List Int) (h : ∀ i, (f i).length = 16) (hz : ∀ i, c ≤ i → f i = nou) (w : WD) (hx : w.xs.length = 16) :
    secBytes (max c (w.at_.toNat + 1)) (updS f w.at_.toNat w.xs) = putD (secBytes c f) w 16 := by
  have := secBytes_put c f h hz w hx 16 (Nat.le_refl _)
  rwa [List.take_of_length_le (by omega), List.drop_eq_nil_of_le (by rw [h]; omega), List.append_nil] at this
end Go.Proofs.Ytdiakahaghggiaa
