/-
  A write of the device as plain data: sector by sector.
-/
import Derived.Test.YtjhmammoakiknaaWriteL
import Derived.Test.YtjhmammoakiknaaReadD
namespace Go.Proofs.Ytjhmammoakiknaa

theorem secW_get (X : List Int) (n i : Nat) (hi : i < 16) : (secW X n)[i]? = X[n * 16 + i]? := by
  unfold secW
  rw [List.getElem?_take, if_pos hi, List.getElem?_drop]
/-- A sector of the bytes that a write leaves is the sector as it was read, with the bytes that fall into it. -/
theorem sec_write {rc : Nat} {rf : Nat → List Int} (hk : secOK rc rf) (at_ q n : Nat) (d : List Int) (h1 : n * 16 ≤ q) (h2 : q < n * 16 + 16) (h3 : at_ ≤ q) (h4 : q = at_ ∨ q = n * 16) (h5 : q < at_ + d.length) :
    (rf n).take (q - n * 16) ++ (d.drop (q - at_)).take (min (16 - (q - n * 16)) (d.length - (q - at_))) ++ (rf n).drop (q - n * 16 + min (16 - (q - n * 16)) (d.length - (q - at_))) = secW (allW (secBytes rc rf) at_ d) n := by
  have hn : (rf n).length = 16 := hk.2.1 n
  have hbl := secBytes_len rf hk.2.1 rc
  have hge := fillN_ge (secBytes rc rf).length (at_ + d.length)
  have h16 : fillN (secBytes rc rf).length (at_ + d.length) % 16 = 0 := fillN_16 (by omega)
  have hfl := fillB_len (secBytes rc rf) (at_ + d.length)
  obtain ⟨k, hkk⟩ : ∃ k, k = min (16 - (q - n * 16)) (d.length - (q - at_)) := ⟨_, rfl⟩
  rw [← hkk]
  have hin : n * 16 + 16 ≤ fillN (secBytes rc rf).length (at_ + d.length) := by omega
  refine List.ext_getElem? (fun i => ?_)
  by_cases hi : i < 16
  · rw [secW_get _ _ _ hi]
    unfold allW
    rw [putB_get _ _ _ (by rw [hfl]; omega)]
    have hB : ((secBytes rc rf) ++ List.replicate (fillN (secBytes rc rf).length (at_ + d.length) - (secBytes rc rf).length) (0 : Int))[n * 16 + i]? = (rf n)[i]? := by
      by_cases hc : n < rc
      · rw [List.getElem?_append_left (by omega), secBytes_get rf hk.2.1 rc _ (by omega), show (n * 16 + i) / 16 = n by omega, show (n * 16 + i) % 16 = i by omega]
      · rw [List.getElem?_append_right (by omega), List.getElem?_replicate, if_pos (by omega), hk.2.2 n (by omega)]
        unfold nou
        rw [List.getElem?_replicate, if_pos hi]
    rw [hB]
    by_cases ha : i < q - n * 16
    · rw [if_neg (by omega), List.append_assoc, List.getElem?_append_left (by rw [List.length_take]; omega), List.getElem?_take, if_pos ha]
    · by_cases hb : i < q - n * 16 + k
      · rw [if_pos (by omega), List.append_assoc, List.getElem?_append_right (by rw [List.length_take]; omega), List.length_take, hn, Nat.min_eq_left (by omega), List.getElem?_append_left (by rw [List.length_take, List.length_drop]; omega), List.getElem?_take, if_pos (by omega), List.getElem?_drop]
        congr 1
        omega
      · rw [if_neg (by omega), List.getElem?_append_right (by simp; omega), List.getElem?_drop]
        congr 1
        simp
        omega
  · rw [List.getElem?_eq_none (by simp; omega), List.getElem?_eq_none (by unfold secW; simp; omega)]
/-- Sectors that were not written stay as they were read. -/
theorem fold_far : ∀ (l : List WD) (S : DS) (n : Nat), (∀ x ∈ l, x.at_.toNat ≠ n) → (l.foldl stepDS S).rf n = S.rf n
  | [], _, _, _ => rfl
  | x :: l, S, n, h => by
    rw [List.foldl_cons, fold_far l _ n (fun y hy => h y (List.mem_cons_of_mem _ hy))]
    have := h x (List.mem_cons_self ..)
    unfold stepDS updS
    simp only
    rw [if_neg (fun e => this e.symm)]
theorem fold_ws : ∀ (l : List WD) (S : DS), (l.foldl stepDS S).ws = S.ws ++ l
  | [], S => by simp
  | x :: l, S => by rw [List.foldl_cons, fold_ws l]; simp [stepDS]
end Go.Proofs.Ytjhmammoakiknaa
