/-
  Reading a commit's writes along bytes, as plain data: as the program does it, as the specification does it, and that both come to one end.
-/
import Derived.Test.YtdnneomdokcpeaaVrL
import Derived.Test.YtdnneomdokcpeaaRpL
namespace Go.Proofs.Ytdnneomdokcpeaa
open Go.RowKit

theorem rc_str (s : ByteArray) : strOfNums (cbText s) = s := by
  unfold strOfNums cbText
  rw [List.map_map]
  have e : (fun n : Int => UInt8.ofNat n.toNat) ∘ (fun c : UInt8 => (c.toNat : Int)) = id := by
    funext c
    simp
  rw [e, List.map_id]
theorem rc_tk (xs rest : List Int) (b : Bool) : tk xs.length (xs ++ rest, b) = (xs, (rest, b)) := by
  unfold tk
  rw [if_neg (by simp), List.take_left, List.drop_left]
theorem rc_one (x : Int) (rest : List Int) (b : Bool) : rOne (x :: rest, b) = (x, (rest, b)) := by
  have := rc_tk [x] rest b
  unfold rOne bd
  rw [show (x :: rest) = [x] ++ rest from rfl, show (1 : Nat) = [x].length from rfl, this]
  rfl
theorem rc_text (t : ByteArray) (rest : List Int) (b : Bool) : rText (cbLine t ++ rest, b) = (t, (rest, b)) := by
  have h := rc_tk (cbText t) rest b
  rw [cbText_length] at h
  unfold rText bd
  rw [show cbLine t ++ rest = (t.size : Int) :: (cbText t ++ rest) from rfl, rc_one]
  show (strOfNums (tk (t.size : Int).toNat (cbText t ++ rest, b)).1, (tk (t.size : Int).toNat (cbText t ++ rest, b)).2) = _
  rw [show ((t.size : Int)).toNat = t.size by omega, h, rc_str]
theorem rc_bd {σ α β : Type} {f : σ → α × σ} {g : α → σ → β × σ} {s s' : σ} {x : α} (h : f s = (x, s')) : bd f g s = g x s' := by unfold bd; rw [h]
/-- A write of a time, read. -/
def rVer (t : Int) : Rs → VerD × Rs := bd rOne fun d => bd rText fun k => bd rText fun v s => (⟨k, t, v, decide (d = 2)⟩, s)
theorem good_ver (t : Int) : Good (rVer t) := good_one.bd fun _ => good_text.bd fun _ => good_text.bd fun _ => Good.pure _
theorem rc_mark (g : Bool) : decide (cbMark g = 2) = g := by cases g <;> rfl
theorem rc_ver (d : VerD) (rest : List Int) (b : Bool) : rVer d.t (cbOne d ++ rest, b) = (d, (rest, b)) := by
  unfold rVer cbOne
  rw [show (cbMark d.g :: (cbLine d.k ++ cbLine d.v)) ++ rest = cbMark d.g :: (cbLine d.k ++ (cbLine d.v ++ rest)) by simp]
  refine (rc_bd (rc_one _ _ _)).trans ((rc_bd (rc_text _ _ _)).trans ((rc_bd (rc_text _ _ _)).trans ?_))
  rw [rc_mark]
theorem one_less (s : Rs) (h : s.1 ≠ []) : (rOne s).2.1.length < s.1.length := by
  obtain ⟨xs, b⟩ := s
  cases xs with
  | nil => exact absurd rfl h
  | cons x r => rw [rc_one]; simp
theorem ver_less (t : Int) (s : Rs) (h : s.1 ≠ []) : (rVer t s).2.1.length < s.1.length := by
  have h1 := one_less s h
  have e : (rVer t s).2.1 = (bd rText (fun _ => bd rText fun _ s => ((), s)) (rOne s).2).2.1 := rfl
  have h3 := (good_text.bd (g := fun _ => bd rText fun _ s => ((), s)) fun _ => good_text.bd fun _ => Good.pure ()).less (rOne s).2
  rw [e]
  omega
/-- Writes up to the end, whatever stands there. -/
def rAll (t : Int) (s : Rs) : List VerD := if _h : s.1 = [] then [] else (rVer t s).1 :: rAll t (rVer t s).2
termination_by s.1.length
decreasing_by exact ver_less t s _h
theorem rAll_nil (t : Int) {s : Rs} (h : s.1 = []) : rAll t s = [] := by rw [rAll, dif_pos h]
theorem rAll_cons (t : Int) {s : Rs} (h : s.1 ≠ []) : rAll t s = (rVer t s).1 :: rAll t (rVer t s).2 := by rw [rAll, dif_neg h]
theorem rAll_back (t : Int) : ∀ (ds : List VerD) (b : Bool), oneT ds t = true → rAll t (cbAll ds, b) = ds
  | [], b, _ => rAll_nil t rfl
  | d :: r, b, h => by
    have h0 : d.t = t := oneT_at (i := 0) h (by simp)
    have hr : oneT r t = true := oneT_true fun i hi => oneT_at (i := i + 1) h (by simpa using hi)
    have e : cbAll (d :: r) = cbOne d ++ cbAll r := rfl
    rw [rAll_cons t (by rw [e]; simp [cbOne]), e, ← h0, rc_ver]
    simp only
    rw [h0, rAll_back t r b hr]
theorem rAll_time (t : Int) (s : Rs) : oneT (rAll t s) t = true := by
  rw [rAll]
  split
  · rfl
  · have := rAll_time t (rVer t s).2
    show (decide ((rVer t s).1.t = t) && oneT _ t) = true
    rw [this, decide_eq_true (show (rVer t s).1.t = t from rfl)]
    rfl
termination_by s.1.length
decreasing_by rename_i h; exact ver_less t s h
/-! ### As the specification reads -/
def sVer (t : Int) (xs : List Int) : Ss → VerD × Ss := bd (sOne xs) fun d => bd (sLine xs) fun k => bd (sLine xs) fun v s => (⟨k, t, v, decide (d = 2)⟩, s)
theorem sOne_ge (xs : List Int) (s : Ss) : s.1 ≤ (sOne xs s).2.1 := by unfold sOne; split <;> simp
theorem sOne_more {xs : List Int} {s : Ss} (h : s.1 < xs.length) (hb : s.2 = false) : sOne xs s = (xs.getD s.1 0, (s.1 + 1, false)) := by
  unfold sOne
  rw [if_neg (by rw [hb]; simp; omega)]
theorem sLn_ge (xs : List Int) (n : Nat) (s : Ss) : s.1 ≤ (sLn xs n s).2.1 := by unfold sLn; split <;> simp
theorem sLine_ge (xs : List Int) (s : Ss) : s.1 ≤ (sLine xs s).2.1 := Nat.le_trans (sOne_ge xs s) (sLn_ge xs _ _)
theorem sVer_more (t : Int) {xs : List Int} {s : Ss} (h : s.1 < xs.length) (hb : s.2 = false) : s.1 < (sVer t xs s).2.1 := by
  have h1 := sLine_ge xs (sOne xs s).2
  have h2 := sLine_ge xs (sLine xs (sOne xs s).2).2
  have e : (sVer t xs s).2 = (sLine xs (sLine xs (sOne xs s).2).2).2 := rfl
  rw [e]
  have h3 : (sOne xs s).2.1 = s.1 + 1 := by rw [sOne_more h hb]
  omega
/-- A kind that there is. -/
def kindK (k : Int) : Bool := decide (1 ≤ k) && decide (k ≤ 2)
def sAll (t : Int) (xs : List Int) (s : Ss) : List VerD × Bool :=
  if _h : s.1 < xs.length ∧ s.2 = false then
    if kindK (sOne xs s).1 = true then ((sVer t xs s).1 :: (sAll t xs (sVer t xs s).2).1, (sAll t xs (sVer t xs s).2).2) else ([], false)
  else ([], !s.2)
termination_by xs.length - s.1
decreasing_by
  all_goals
    have := sVer_more t _h.1 _h.2
    omega
theorem sAll_end (t : Int) {xs : List Int} {s : Ss} (h : ¬ (s.1 < xs.length ∧ s.2 = false)) : sAll t xs s = ([], !s.2) := by rw [sAll, dif_neg h]
theorem sAll_bad (t : Int) {xs : List Int} {s : Ss} (h : s.1 < xs.length ∧ s.2 = false) (hk : kindK (sOne xs s).1 = false) : sAll t xs s = ([], false) := by rw [sAll, dif_pos h, if_neg (by rw [hk]; decide)]
theorem sAll_cons (t : Int) {xs : List Int} {s : Ss} (h : s.1 < xs.length ∧ s.2 = false) (hk : kindK (sOne xs s).1 = true) : sAll t xs s = ((sVer t xs s).1 :: (sAll t xs (sVer t xs s).2).1, (sAll t xs (sVer t xs s).2).2) := by rw [sAll, dif_pos h, if_pos hk]
/-- A line read well is the line's bytes. -/
theorem sLine_is {xs : List Int} (hb : By xs) {s : Ss} (h : (sLine xs s).2.2 = false) (hs : s.2 = false) : s.1 ≤ xs.length ∧ xs.drop s.1 = cbLine (sLine xs s).1 ++ xs.drop (sLine xs s).2.1 ∧ (sLine xs s).1.size ≤ 255 ∧ (sLine xs s).2.1 ≤ xs.length := by
  obtain ⟨p, b⟩ := s
  simp only at hs
  subst hs
  by_cases hp : p < xs.length
  · have e1 : sOne xs (p, false) = (xs.getD p 0, (p + 1, false)) := sOne_more hp rfl
    have hx := hb.getD p
    obtain ⟨m, hm⟩ : ∃ m : Nat, xs.getD p 0 = (m : Int) := Int.eq_ofNat_of_zero_le hx.1
    have e2 : sLine xs (p, false) = sLn xs m (p + 1, false) := by
      unfold sLine
      rw [rc_bd e1, hm]
      simp
    rw [e2] at h ⊢
    unfold sLn at h ⊢
    split at h
    · cases h
    · rename_i hn
      rw [if_neg hn]
      simp only [not_or, Nat.not_lt] at hn
      have hlen : ((xs.drop (p + 1)).take m).length = m := by rw [List.length_take, List.length_drop]; omega
      have hsz : (strOfNums ((xs.drop (p + 1)).take m)).size = m := by
        have h := congrArg List.length (strOfNums_data ((xs.drop (p + 1)).take m))
        rw [List.length_map, hlen] at h
        simpa using h
      have ht : cbText (strOfNums ((xs.drop (p + 1)).take m)) = (xs.drop (p + 1)).take m := by
        unfold cbText
        rw [strOfNums_data, List.map_map]
        have : ∀ x ∈ (xs.drop (p + 1)).take m, ((fun b : UInt8 => (b.toNat : Int)) ∘ fun n : Int => UInt8.ofNat n.toNat) x = x := fun x hx => by
          have := hb x (List.mem_of_mem_drop (List.mem_of_mem_take hx))
          simp
          omega
        rw [List.map_congr_left this, List.map_id']
      refine ⟨by simp; omega, ?_, by rw [hsz]; omega, hn.2⟩
      show xs.drop p = cbLine _ ++ xs.drop (p + 1 + m)
      unfold cbLine
      have ed : xs.drop (p + 1 + m) = (xs.drop (p + 1)).drop m := by rw [List.drop_drop]
      rw [ht, hsz, ← hm, List.cons_append, ed, List.take_append_drop, List.drop_eq_getElem_cons hp, List.getD_eq_getElem?_getD, List.getElem?_eq_getElem hp]
      rfl
  · exfalso
    have e1 : sOne xs (p, false) = (0, (p, true)) := by unfold sOne; rw [if_pos (.inr (by simp; omega))]
    have e2 : sLine xs (p, false) = (ByteArray.empty, (p, true)) := by
      unfold sLine
      rw [rc_bd e1]
      unfold sLn
      rw [if_pos (.inl rfl)]
    rw [e2] at h
    cases h
theorem sLn_badS {xs : List Int} {n : Nat} {s : Ss} (h : s.2 = true) : (sLn xs n s).2.2 = true := by unfold sLn; rw [if_pos (.inl h)]
theorem sOne_badS {xs : List Int} {s : Ss} (h : s.2 = true) : (sOne xs s).2.2 = true := by unfold sOne; rw [if_pos (.inl h)]
theorem sLine_badS {xs : List Int} {s : Ss} (h : s.2 = true) : (sLine xs s).2.2 = true := sLn_badS (sOne_badS h)
/-- A write read well is the write's bytes. -/
theorem sVer_is (t : Int) {xs : List Int} (hb : By xs) {s : Ss} (h : s.1 < xs.length ∧ s.2 = false) (hk : kindK (sOne xs s).1 = true) (hg : (sVer t xs s).2.2 = false) :
    xs.drop s.1 = cbOne (sVer t xs s).1 ++ xs.drop (sVer t xs s).2.1 ∧ (sVer t xs s).1.k.size ≤ 255 ∧ (sVer t xs s).1.v.size ≤ 255 ∧ (sVer t xs s).2.1 ≤ xs.length := by
  have e1 := sOne_more h.1 h.2
  obtain ⟨a, ha⟩ : ∃ a, a = sLine xs (sOne xs s).2 := ⟨_, rfl⟩
  have eV : sVer t xs s = (⟨a.1, t, (sLine xs a.2).1, decide ((sOne xs s).1 = 2)⟩, (sLine xs a.2).2) := by rw [ha]; rfl
  rw [eV] at hg ⊢
  simp only at hg ⊢
  have hga : a.2.2 = false := by
    cases hq : a.2.2 with
    | false => rfl
    | true => rw [sLine_badS hq] at hg; cases hg
  have h1 := sLine_is hb (s := (sOne xs s).2) (by rw [← ha]; exact hga) (by rw [e1])
  have h2 := sLine_is hb (s := a.2) hg hga
  rw [← ha] at h1
  refine ⟨?_, h1.2.2.1, h2.2.2.1, h2.2.2.2⟩
  have hm : cbMark (decide ((sOne xs s).1 = 2)) = (sOne xs s).1 := by
    unfold kindK at hk
    simp only [Bool.and_eq_true, decide_eq_true_eq] at hk
    unfold cbMark
    by_cases h2 : (sOne xs s).1 = 2
    · rw [h2]; rfl
    · rw [decide_eq_false h2]; simp; omega
  unfold cbOne
  rw [hm, List.cons_append, List.append_assoc, ← h2.2.1, ← h1.2.1, e1, List.drop_eq_getElem_cons h.1, List.getD_eq_getElem?_getD, List.getElem?_eq_getElem h.1]
  rfl
/-- What was read well is just these bytes. -/
theorem sAll_is (t : Int) {xs : List Int} (hb : By xs) (s : Ss) (hs : s.1 ≤ xs.length) (h : (sAll t xs s).2 = true) : xs.drop s.1 = cbAll (sAll t xs s).1 := by
  by_cases h1 : s.1 < xs.length ∧ s.2 = false
  · cases hk : kindK (sOne xs s).1 with
    | false => rw [sAll_bad t h1 hk] at h; cases h
    | true =>
      rw [sAll_cons t h1 hk] at h ⊢
      simp only at h ⊢
      have hg : (sVer t xs s).2.2 = false := by
        cases hq : (sVer t xs s).2.2 with
        | false => rfl
        | true => rw [sAll_end t (by rw [hq]; simp), hq] at h; cases h
      have h2 := sVer_is t hb h1 hk hg
      have h3 := sAll_is t hb (sVer t xs s).2 h2.2.2.2 h
      rw [h2.1, h3]
      rfl
  · rw [sAll_end t h1] at h ⊢
    have hb0 : s.2 = false := by simpa using h
    have : xs.length ≤ s.1 := by
      by_cases h2 : s.1 < xs.length
      · exact absurd ⟨h2, hb0⟩ h1
      · omega
    rw [List.drop_of_length_le this]
    rfl
termination_by xs.length - s.1
decreasing_by
  have := sVer_more t h1.1 h1.2
  omega
theorem sAll_time (t : Int) (xs : List Int) (s : Ss) : oneT (sAll t xs s).1 t = true := by
  by_cases h1 : s.1 < xs.length ∧ s.2 = false
  · cases hk : kindK (sOne xs s).1 with
    | false => rw [sAll_bad t h1 hk]; rfl
    | true =>
      rw [sAll_cons t h1 hk]
      have := sAll_time t xs (sVer t xs s).2
      show (decide ((sVer t xs s).1.t = t) && oneT _ t) = true
      rw [this, decide_eq_true (show (sVer t xs s).1.t = t from rfl)]
      rfl
  · rw [sAll_end t h1]; rfl
termination_by xs.length - s.1
decreasing_by
  have := sVer_more t h1.1 h1.2
  omega
/-- A line is read back. -/
theorem sLine_back (pre rest : List Int) (t : ByteArray) : sLine (pre ++ cbLine t ++ rest) (pre.length, false) = (t, (pre.length + (t.size + 1), false)) := by
  have e0 : pre ++ cbLine t ++ rest = pre ++ (t.size : Int) :: (cbText t ++ rest) := by simp [cbLine]
  have hp : pre.length < (pre ++ cbLine t ++ rest).length := by simp [cbLine]
  have e1 : sOne (pre ++ cbLine t ++ rest) (pre.length, false) = ((t.size : Int), (pre.length + 1, false)) := by
    rw [sOne_more hp rfl]
    simp only
    rw [e0, List.getD_eq_getElem?_getD, List.getElem?_append_right (Nat.le_refl _), Nat.sub_self]
    rfl
  unfold sLine
  rw [rc_bd e1]
  unfold sLn
  rw [if_neg (by simp [cbLine_length]; omega)]
  simp only [Int.toNat_natCast]
  have e2 : (pre ++ cbLine t ++ rest).drop (pre.length + 1) = cbText t ++ rest := by
    rw [e0, ← List.drop_drop, List.drop_left]
    rfl
  rw [e2, show t.size = (cbText t).length from (cbText_length t).symm, List.take_left, rc_str, cbText_length, Nat.add_assoc, Nat.add_comm 1]
theorem sVer_back (pre rest : List Int) (d : VerD) : sVer d.t (pre ++ cbOne d ++ rest) (pre.length, false) = (d, (pre.length + (cbOne d).length, false)) ∧ kindK (sOne (pre ++ cbOne d ++ rest) (pre.length, false)).1 = true := by
  have e0 : pre ++ cbOne d ++ rest = pre ++ cbMark d.g :: (cbLine d.k ++ (cbLine d.v ++ rest)) := by simp [cbOne]
  have hp : pre.length < (pre ++ cbOne d ++ rest).length := by simp [cbOne]
  have e1 : sOne (pre ++ cbOne d ++ rest) (pre.length, false) = (cbMark d.g, (pre.length + 1, false)) := by
    rw [sOne_more hp rfl]
    simp only
    rw [e0, List.getD_eq_getElem?_getD, List.getElem?_append_right (Nat.le_refl _), Nat.sub_self]
    rfl
  have e2 : pre ++ cbOne d ++ rest = (pre ++ [cbMark d.g]) ++ cbLine d.k ++ (cbLine d.v ++ rest) := by simp [cbOne]
  have e3 : pre ++ cbOne d ++ rest = (pre ++ [cbMark d.g] ++ cbLine d.k) ++ cbLine d.v ++ rest := by simp [cbOne]
  have l2 : sLine (pre ++ cbOne d ++ rest) (pre.length + 1, false) = (d.k, (pre.length + 1 + (d.k.size + 1), false)) := by
    have := sLine_back (pre ++ [cbMark d.g]) (cbLine d.v ++ rest) d.k
    rw [← e2] at this
    simpa using this
  have l3 : sLine (pre ++ cbOne d ++ rest) (pre.length + 1 + (d.k.size + 1), false) = (d.v, (pre.length + 1 + (d.k.size + 1) + (d.v.size + 1), false)) := by
    have := sLine_back (pre ++ [cbMark d.g] ++ cbLine d.k) rest d.v
    rw [← e3] at this
    have hl : (pre ++ [cbMark d.g] ++ cbLine d.k).length = pre.length + 1 + (d.k.size + 1) := by simp [cbLine_length]; omega
    rw [hl] at this
    exact this
  refine ⟨?_, by rw [e1]; unfold cbMark kindK; cases d.g <;> rfl⟩
  unfold sVer
  rw [rc_bd e1, rc_bd l2, rc_bd l3, rc_mark, cbOne_length]
  have : pre.length + 1 + (d.k.size + 1) + (d.v.size + 1) = pre.length + (d.k.size + d.v.size + 3) := by omega
  rw [this]
theorem sAll_back (t : Int) : ∀ (ds : List VerD) (pre : List Int), oneT ds t = true → (∀ i (hi : i < ds.length), ds[i].k.size ≤ 255 ∧ ds[i].v.size ≤ 255) → sAll t (pre ++ cbAll ds) (pre.length, false) = (ds, true)
  | [], pre, _, _ => by rw [sAll_end t (by simp [cbAll])]; rfl
  | d :: r, pre, h, hs => by
    have h0 : d.t = t := oneT_at (i := 0) h (by simp)
    have hr : oneT r t = true := oneT_true fun i hi => oneT_at (i := i + 1) h (by simpa using hi)
    have hz := hs 0 (by simp)
    have e : pre ++ cbAll (d :: r) = pre ++ cbOne d ++ cbAll r := by simp [cbAll]
    obtain ⟨b1, b2⟩ := sVer_back pre (cbAll r) d
    have ih := sAll_back t r (pre ++ cbOne d) hr (fun i hi => hs (i + 1) (by simpa using hi))
    rw [List.length_append] at ih
    rw [e, sAll_cons t ⟨by simp [cbOne], rfl⟩ b2, ← h0, b1]
    simp only
    rw [h0, ih]
/-! ### Both come to one end -/
def rcL (t : Int) (xs : List Int) : List VerD := rAll t (xs, false)
/-- They are a commit's bytes. -/
def rcOK (t : Int) (xs : List Int) : Bool := wrV (rcL t xs) t && decide (cbAll (rcL t xs) = xs)
theorem com_wr {ds : List VerD} {t : Int} (h : oneT ds t = true) : comV ds = wrV ds t := by
  unfold comV
  cases ds with
  | nil => rfl
  | cons d r =>
    have h0 : d.t = t := oneT_at (i := 0) h (by simp)
    rw [decide_eq_false (by simp)]
    show (false || wrV (d :: r) d.t) = _
    rw [h0]
    rfl
theorem rc_same (t : Int) {xs : List Int} (hb : By xs) : ((sAll t xs (0, false)).2 && comV (sAll t xs (0, false)).1) = rcOK t xs ∧ (rcOK t xs = true → (sAll t xs (0, false)).1 = rcL t xs) := by
  have ht := sAll_time t xs (0, false)
  cases h : (sAll t xs (0, false)).2 && comV (sAll t xs (0, false)).1 with
  | true =>
    obtain ⟨h1, h2⟩ := Bool.and_eq_true_iff.1 h
    have h3 := sAll_is t hb (0, false) (Nat.zero_le _) h1
    simp only [List.drop_zero] at h3
    have h4 : rcL t xs = (sAll t xs (0, false)).1 := by unfold rcL; rw [h3]; rw [← h3]; exact (congrArg (fun z => rAll t (z, false)) h3).trans (rAll_back t _ false ht)
    refine ⟨?_, fun _ => h4.symm⟩
    unfold rcOK
    rw [h4, ← com_wr ht, h2, decide_eq_true h3.symm]
    rfl
  | false =>
    cases hr : rcOK t xs with
    | false => exact ⟨rfl, fun h => by cases h⟩
    | true =>
      exfalso
      unfold rcOK at hr
      obtain ⟨h1, h2⟩ := Bool.and_eq_true_iff.1 hr
      have h2 := of_decide_eq_true h2
      have hw := h1
      unfold wrV at h1
      simp only [Bool.and_eq_true, decide_eq_true_eq] at h1
      have h3 := sAll_back t (rcL t xs) [] h1.2.2 (fun i hi => by have := verK_small (okVs_ver h1.2.1 hi); omega)
      rw [List.nil_append, h2] at h3
      have h3' : sAll t xs (0, false) = (rcL t xs, true) := h3
      rw [h3', com_wr h1.2.2, hw] at h
      cases h
end Go.Proofs.Ytdnneomdokcpeaa
