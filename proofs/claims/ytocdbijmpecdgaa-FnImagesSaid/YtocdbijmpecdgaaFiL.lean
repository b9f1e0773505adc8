/-
  Images that stand one behind the other are scanned back; a write behind them: plain facts for FnImages.
-/
import Derived.Test.YtocdbijmpecdgaaCnL
namespace Go.Proofs.Ytocdbijmpecdgaa
open Go.RowKit

theorem getD_mid (pre mid post : List Int) (i : Nat) (hi : i < mid.length) : (pre ++ (mid ++ post)).getD (pre.length + i) 0 = mid.getD i 0 := by
  simp [List.getD, List.getElem?_append_right, List.getElem?_append_left hi]
/-- An image is read back from where its bytes stand. -/
theorem next_here (pre post : List Int) (x : ImD) (hok : x.ok = true) : nextI (pre ++ (x.by ++ post)) pre.length = some x := by
  have hb := of_decide_eq_true hok
  obtain ⟨h0, h1, h2, h3⟩ := hb
  have hl := x.by_len
  have g : ∀ i, i < x.xs.length + 9 → (pre ++ (x.by ++ post)).getD (pre.length + i) 0 = x.by.getD i 0 := fun i hi => getD_mid pre x.by post i (by omega)
  have e0 : x.by.getD 0 0 = imMark x.gone := rfl
  have e1 : x.by.getD 1 0 = x.id / 256 := rfl
  have e2 : x.by.getD 2 0 = x.id % 256 := rfl
  have e3 : x.by.getD 3 0 = (x.xs.length : Int) / 256 := rfl
  have e4 : x.by.getD 4 0 = (x.xs.length : Int) % 256 := rfl
  have hlen : lenAt (pre ++ (x.by ++ post)) pre.length = x.xs.length := by
    unfold lenAt
    rw [g 3 (by omega), g 4 (by omega), e3, e4]
    omega
  have hdrop : (pre ++ (x.by ++ post)).drop pre.length = x.by ++ post := by simp
  have hby : x.by = imMark x.gone :: x.id / 256 :: x.id % 256 :: (x.xs.length : Int) / 256 :: (x.xs.length : Int) % 256 :: (x.xs ++ four (crcV (imgH x.id x.gone x.xs))) := by simp [ImD.by, imgL, imgH]
  have him : imAt (pre ++ (x.by ++ post)) pre.length = x := by
    unfold imAt
    rw [hlen, g 1 (by omega), g 2 (by omega), e1, e2]
    have g0 := g 0 (by omega)
    rw [Nat.add_zero] at g0
    rw [g0, e0]
    have e5 : (pre ++ (x.by ++ post)).drop (pre.length + 5) = x.xs ++ (four (crcV (imgH x.id x.gone x.xs)) ++ post) := by
      rw [← List.drop_drop, hdrop, hby]
      simp
    rw [e5, List.take_left]
    cases x with
    | mk id gone xs =>
      have : decide (imMark gone = 2) = gone := by unfold imMark; cases gone <;> rfl
      simp only [this]
      congr 1
      omega
  have hL : (pre ++ (x.by ++ post)).length = pre.length + (x.xs.length + 9) + post.length := by simp [hl]; omega
  have := next_yes (b := pre ++ (x.by ++ post)) (p := pre.length) (by omega) (by rw [hlen]; omega) (by rw [him]; exact hok) (by rw [him, hlen, hdrop, ← hl]; simp)
  rw [this, him]
/-- None stands where noughts are. -/
theorem next_nought {b : List Int} {p : Nat} (h : b.getD p 0 = 0) : nextI b p = none := next_no9 (fun ⟨_, h2, _⟩ => by rw [h] at h2; omega)
theorem steps_flat (L : List ImD) (z : List Int) (hok : ∀ x ∈ L, x.ok = true) : ∀ k, k ≤ L.length → Steps (flatI L ++ z) (L.take k) (flatI (L.take k)).length := by
  intro k
  induction k with
  | zero => intro _; exact Steps.start
  | succ k ih =>
    intro hk
    have hk' : k < L.length := hk
    have e : L.take (k + 1) = L.take k ++ [L[k]] := List.take_succ_eq_append_getElem hk'
    have hs := ih (by omega)
    have hn : nextI (flatI L ++ z) (flatI (L.take k)).length = some L[k] := by
      have h1 : flatI L ++ z = flatI (L.take k) ++ (L[k].by ++ (flatI (L.drop (k + 1)) ++ z)) := by
        have e2 : L = L.take k ++ L[k] :: L.drop (k + 1) := by rw [← List.drop_eq_getElem_cons hk', List.take_append_drop]
        have e3 : flatI L = flatI (L.take k) ++ (L[k].by ++ flatI (L.drop (k + 1))) := by
          have := congrArg flatI e2
          rw [this]
          simp only [flatI, List.flatMap_append, List.flatMap_cons]
        rw [e3]
        simp only [List.append_assoc]
      rw [h1]
      exact next_here _ _ _ (hok _ (List.getElem_mem hk'))
    have := Steps.more hs hn
    rw [e, flatI_snoc, List.length_append, ImD.by_len]
    rw [show (flatI (List.take k L)).length + (L[k].xs.length + 9) = (flatI (List.take k L)).length + 9 + L[k].xs.length by omega]
    exact this
/-- Images that stand one behind the other, noughts behind them, are scanned back. -/
theorem scan_flat (L : List ImD) (m : Nat) (hok : ∀ x ∈ L, x.ok = true) : scanB (flatI L ++ List.replicate m 0) = (L, (flatI L).length) := by
  have hs := steps_flat L (List.replicate m 0) hok L.length (Nat.le_refl _)
  rw [List.take_of_length_le (Nat.le_refl _)] at hs
  refine scan_end hs (next_nought ?_)
  simp [List.getD]
  cases m with
  | zero => simp
  | succ m => simp
theorem scan_pad (L : List ImD) (hok : ∀ x ∈ L, x.ok = true) : scanB (padB (flatI L)) = (L, (flatI L).length) := scan_flat L _ hok
/-- A write behind bytes and their noughts. -/
theorem allW_pad (d y : List Int) (hy : 0 < y.length) : allW (padB d) d.length y = padB (d ++ y) := by
  have hpl := padB_len d
  have hge := fillN_ge 0 d.length
  have hF : fillN (padB d).length (d.length + y.length) = fillN 0 (d.length + y.length) := by
    rw [hpl]
    unfold fillN
    repeat' split
    all_goals omega
  have hge2 := fillN_ge 0 (d.length + y.length)
  have e : padB d ++ List.replicate (fillN (padB d).length (d.length + y.length) - (padB d).length) 0 = d ++ List.replicate (fillN 0 (d.length + y.length) - d.length) 0 := by
    rw [hF, hpl]
    unfold padB
    rw [List.append_assoc, List.replicate_append_replicate]
    congr 2
    have : fillN 0 d.length ≤ fillN 0 (d.length + y.length) := by
      unfold fillN
      repeat' split
      all_goals omega
    omega
  unfold allW
  rw [e]
  unfold putB padB
  rw [List.take_left, List.length_append]
  congr 1
  rw [List.drop_append, List.drop_eq_nil_of_le (by omega), List.nil_append, List.drop_replicate]
  congr 1
  omega
theorem Lat.self {k : ImD → Int} {g : ImD → Bool} {L : List ImD} (hu : L.Pairwise (fun a b => k a < k b)) (hg : ∀ x ∈ L, g x = false) : Lat k g L L := by
  refine ⟨hu, fun x => ⟨fun hx => ⟨?_, hg x hx⟩, fun h => ?_⟩⟩
  · obtain ⟨l1, l2, rfl⟩ := List.append_of_mem hx
    refine ⟨l1, l2, rfl, fun y hy => ?_⟩
    rw [List.pairwise_append, List.pairwise_cons] at hu
    have := hu.2.1.1 y hy
    omega
  · obtain ⟨⟨pre, post, rfl, _⟩, _⟩ := h
    simp
theorem pad_mono {a b : List Int} (h : a.length ≤ b.length) : (padB a).length ≤ (padB b).length := by
  rw [padB_len, padB_len]
  unfold fillN
  repeat' split
  all_goals omega
theorem lat_gone {hs R : List ImD} (h : Lat ImD.id ImD.gone hs R) : ∀ x ∈ R, x.gone = false := fun x hx => ((h.all x).1 hx).2
theorem lat_len_le {hs R : List ImD} (h : Lat ImD.id ImD.gone hs R) : (flatI R).length ≤ (flatI hs).length := by
  rw [flatI_len, flatI_len]
  exact sum_sub ImD.id _ R hs h.up (fun x hx => lat_in h hx)
end Go.Proofs.Ytocdbijmpecdgaa
