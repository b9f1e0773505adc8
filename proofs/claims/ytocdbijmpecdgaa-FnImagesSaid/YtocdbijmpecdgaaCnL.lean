/-
  What is read behind a write; images put behind each other: plain facts for Clean.
-/
import Derived.Test.YtocdbijmpecdgaaStT
import Derived.Test.YtocdbijmpecdgaaLtL
namespace Go.Proofs.Ytocdbijmpecdgaa
open Go.RowKit

theorem wrDS_rf (S : DS) (at_ : Nat) (d : List Int) (k : Nat) : ∀ j, j ≤ touchN at_ d.length → (wrDS S at_ d j).rf k = if at_ / 16 ≤ k ∧ k < at_ / 16 + j then secW (allW (secBytes S.rc S.rf) at_ d) k else S.rf k := by
  intro j
  induction j with
  | zero => intro _; rw [wrDS_zero, if_neg (by omega)]
  | succ j ih =>
    intro hj
    rw [wrDS_step S at_ d j (by omega)]
    simp only [stepDS, updS, Int.toNat_natCast]
    by_cases e : k = at_ / 16 + j
    · subst e
      rw [if_pos rfl, if_pos (by omega)]
    · rw [if_neg e, ih (by omega)]
      by_cases h : at_ / 16 ≤ k ∧ k < at_ / 16 + j
      · rw [if_pos h, if_pos (by omega)]
      · rw [if_neg h, if_neg (by omega)]
theorem wrDS_rc (S : DS) (at_ : Nat) (d : List Int) : ∀ j, j ≤ touchN at_ d.length → (wrDS S at_ d j).rc = if j = 0 then S.rc else max S.rc (at_ / 16 + j) := by
  intro j
  induction j with
  | zero => intro _; rw [wrDS_zero, if_pos rfl]
  | succ j ih =>
    intro hj
    rw [wrDS_step S at_ d j (by omega)]
    simp only [stepDS, Int.toNat_natCast]
    rw [ih (by omega), if_neg (Nat.succ_ne_zero j)]
    split <;> omega
/-- What is read behind a write. -/
theorem wrDS_bytes (S : DS) (at_ : Nat) (d : List Int) (hS : secOK S.rc S.rf) (hd : 0 < d.length) : secBytes (wrDS S at_ d (touchN at_ d.length)).rc (wrDS S at_ d (touchN at_ d.length)).rf = allW (secBytes S.rc S.rf) at_ d := by
  obtain ⟨h1, h2, h3⟩ := hS
  have hT : 0 < touchN at_ d.length := by unfold touchN; rw [if_neg (by omega)]; omega
  have hbl := secBytes_len S.rf h2 S.rc
  have hge := fillN_ge (secBytes S.rc S.rf).length (at_ + d.length)
  have hAl := allW_len (secBytes S.rc S.rf) at_ d
  have hfl := fillB_len (secBytes S.rc S.rf) (at_ + d.length)
  have hrc := wrDS_rc S at_ d _ (Nat.le_refl (touchN at_ d.length))
  rw [if_neg (by omega)] at hrc
  have hF : fillN (secBytes S.rc S.rf).length (at_ + d.length) = max S.rc (at_ / 16 + touchN at_ d.length) * 16 := by
    unfold fillN touchN
    rw [if_neg (by omega : ¬ d.length = 0), hbl]
    split <;> omega
  have hr16 : ∀ i, ((wrDS S at_ d (touchN at_ d.length)).rf i).length = 16 := fun i => by
    rw [wrDS_rf S at_ d i _ (Nat.le_refl _)]
    split
    · rename_i h
      unfold secW
      rw [List.length_take, List.length_drop, hAl, hF]
      have := Nat.le_max_right S.rc (at_ / 16 + touchN at_ d.length)
      omega
    · exact h2 i
  apply List.ext_getElem?
  intro x
  by_cases hx : x < max S.rc (at_ / 16 + touchN at_ d.length) * 16
  · rw [hrc, secBytes_get _ hr16 _ x hx, wrDS_rf S at_ d _ _ (Nat.le_refl _)]
    split
    · rename_i h
      rw [secW_get _ _ _ (by omega), show x / 16 * 16 + x % 16 = x by omega]
    · rename_i h
      have hnot : ¬ (at_ ≤ x ∧ x < at_ + d.length) := fun hh => h (by
        unfold touchN
        rw [if_neg (by omega)]
        omega)
      unfold allW
      rw [putB_get _ _ _ (by rw [hfl]; omega), if_neg hnot]
      by_cases hb : x < S.rc * 16
      · rw [List.getElem?_append_left (by omega), secBytes_get S.rf h2 S.rc x hb]
      · rw [List.getElem?_append_right (by omega), List.getElem?_replicate, if_pos (by omega), h3 _ (by omega)]
        unfold nou
        rw [List.getElem?_replicate, if_pos (by omega)]
  · rw [List.getElem?_eq_none (by rw [hrc, secBytes_len _ hr16]; omega), List.getElem?_eq_none (by rw [hAl, hF]; omega)]
/-- Bytes and noughts up to the end of the sector. -/
def padB (d : List Int) : List Int := d ++ List.replicate (fillN 0 d.length - d.length) 0
theorem padB_len (d : List Int) : (padB d).length = fillN 0 d.length := by
  have := (fillN_ge 0 d.length).2
  unfold padB
  simp
  omega
theorem allW_start (d : List Int) : allW [] 0 d = padB d := by
  have := (fillN_ge 0 d.length).2
  unfold allW padB putB
  simp [List.drop_replicate]
/-- All bytes of images, one behind the other. -/
def flatI (L : List ImD) : List Int := L.flatMap ImD.by
theorem flatI_snoc (L : List ImD) (x : ImD) : flatI (L ++ [x]) = flatI L ++ x.by := by simp [flatI]
theorem flatI_len (L : List ImD) : (flatI L).length = (L.map fun x => x.xs.length + 9).sum := by
  induction L with
  | nil => rfl
  | cons x L ih =>
    have : flatI (x :: L) = x.by ++ flatI L := rfl
    rw [this, List.length_append, ImD.by_len, ih]
    simp
/-- Elements of a list with keys that rise, all of them of another list, count no more than it. -/
theorem sum_sub {α : Type} (k : α → Int) (f : α → Nat) : ∀ (R l : List α), R.Pairwise (fun a b => k a < k b) → (∀ x ∈ R, x ∈ l) → (R.map f).sum ≤ (l.map f).sum
  | [], _, _, _ => by simp
  | x :: R, l, hp, hm => by
    rw [List.pairwise_cons] at hp
    obtain ⟨l1, l2, rfl⟩ := List.append_of_mem (hm x (List.mem_cons_self ..))
    have := sum_sub k f R (l1 ++ l2) hp.2 (fun y hy => by
      have h1 := hm y (List.mem_cons_of_mem _ hy)
      have h2 := hp.1 y hy
      rcases List.mem_append.1 h1 with h | h
      · exact List.mem_append_left _ h
      · rcases List.mem_cons.1 h with e | h
        · subst e; omega
        · exact List.mem_append_right _ h)
    simp only [List.map_cons, List.map_append, List.sum_cons, List.sum_append] at this ⊢
    omega
theorem lat_in {α : Type} {k : α → Int} {g : α → Bool} {hs R : List α} (h : Lat k g hs R) {x : α} (hx : x ∈ R) : x ∈ hs := by
  obtain ⟨⟨pre, post, rfl, _⟩, _⟩ := (h.all x).1 hx
  simp
theorem scanI_sum (b : List Int) : ∀ f p, p ≤ b.length → ((scanI b f p).1.map fun x => x.xs.length + 9).sum + p = (scanI b f p).2 := by
  intro f
  induction f with
  | zero => intro p _; simp [scanI]
  | succ f ih =>
    intro p hp
    cases hn : nextI b p with
    | none => rw [scanI_none hn]; simp
    | some x =>
      obtain ⟨_, _, _, h4⟩ := next_some hn
      have := ih (p + 9 + x.xs.length) (by omega)
      simp only [scanI, hn]
      simp
      omega
theorem scanI_ok (b : List Int) (h8 : Bytes8 b) : ∀ f p, ∀ x ∈ (scanI b f p).1, x.ok = true ∧ Bytes8 x.xs := by
  intro f
  induction f with
  | zero => intro p x hx; simp [scanI] at hx
  | succ f ih =>
    intro p x hx
    cases hn : nextI b p with
    | none => rw [scanI_none hn] at hx; simp at hx
    | some y =>
      obtain ⟨h1, h2, _, _⟩ := next_some hn
      simp only [scanI, hn] at hx
      rcases List.mem_cons.1 hx with e | hx
      · subst e
        refine ⟨h2, ?_⟩
        rw [h1, bytes8_mem]
        intro z hz
        exact bytes8_mem.1 h8 z (List.mem_of_mem_drop (List.mem_of_mem_take hz))
      · exact ih _ x hx
/-- The latest images have room on the device that they stood on. -/
theorem lat_room {xs : List Int} {ws : List WD} {L : List ImD} (h : okD xs.length ws = true) (hL : Lat ImD.id ImD.gone (scanB (readD xs ws)).1 L) : (flatI L).length ≤ 2048 := by
  have h1 := sum_sub ImD.id (fun x => x.xs.length + 9) L _ hL.up (fun x hx => lat_in hL hx)
  have h2 := scanI_sum (readD xs ws) ((readD xs ws).length + 1) 0 (Nat.zero_le _)
  have h3 := stE_le h
  unfold stE at h3
  rw [flatI_len]
  unfold scanB at h1 h3
  omega
end Go.Proofs.Ytocdbijmpecdgaa
