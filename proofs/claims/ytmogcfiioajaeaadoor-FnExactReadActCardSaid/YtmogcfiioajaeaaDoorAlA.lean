/-
  The words of a line, and the numbers among them: plain data.
-/
import Derived.Test.YtmogcfiioajaeaaDoorBase
import Derived.Lib.AtoiAll
import Derived.Lib.Atoi
import Derived.Lib.ItoaNum
import Derived.Lib.SplitLaws
namespace Go.Proofs.YtmogcfiioajaeaaDoor

/-- Bytes cut at each blank. -/
def cutL : List UInt8 → List (List UInt8)
  | [] => [[]]
  | b :: l => if b = 32 then [] :: cutL l else match cutL l with
    | [] => [[b]]
    | x :: r => (b :: x) :: r
theorem cutL_free : ∀ {a : List UInt8}, (∀ b ∈ a, b ≠ 32) → cutL a = [a]
  | [], _ => rfl
  | b :: a, h => by
    unfold cutL
    rw [if_neg (h b (List.mem_cons_self ..)), cutL_free fun x hx => h x (List.mem_cons_of_mem _ hx)]
theorem cutL_at (r : List UInt8) : ∀ {a : List UInt8}, (∀ b ∈ a, b ≠ 32) → cutL (a ++ 32 :: r) = a :: cutL r
  | [], _ => by
    rw [List.nil_append, cutL, if_pos rfl]
  | b :: a, h => by
    rw [List.cons_append, cutL, if_neg (h b (List.mem_cons_self ..)), cutL_at r fun x hx => h x (List.mem_cons_of_mem _ hx)]
theorem index_free : ∀ {a : List UInt8}, (∀ b ∈ a, b ≠ 32) → Lib.index a [32] = -1
  | [], _ => rfl
  | b :: a, h => by
    have hb : ¬ b = 32 := h b (List.mem_cons_self ..)
    have hb2 : ¬ (32 : UInt8) = b := fun e => hb e.symm
    unfold Lib.index
    rw [index_free fun x hx => h x (List.mem_cons_of_mem _ hx)]
    simp [List.isPrefixOf, hb2]
theorem index_at (r : List UInt8) : ∀ {a : List UInt8}, (∀ b ∈ a, b ≠ 32) → Lib.index (a ++ 32 :: r) [32] = a.length
  | [], _ => by
    rw [List.nil_append, Lib.index]
    simp [List.isPrefixOf]
  | b :: a, h => by
    have hb : ¬ b = 32 := h b (List.mem_cons_self ..)
    have hb2 : ¬ (32 : UInt8) = b := fun e => hb e.symm
    rw [List.cons_append]
    unfold Lib.index
    rw [index_at r fun x hx => h x (List.mem_cons_of_mem _ hx)]
    have : ¬ ((a.length : Int) = -1) := by omega
    simp [List.isPrefixOf, hb2, this]
theorem parts_32 : ∀ s : List UInt8, (∀ b ∈ s, b ≠ 32) ∨ ∃ a r, s = a ++ 32 :: r ∧ ∀ b ∈ a, b ≠ 32
  | [] => .inl fun b h => by cases h
  | b :: s => by
    by_cases hb : b = 32
    · exact .inr ⟨[], s, by rw [hb]; rfl, fun x h => by cases h⟩
    · rcases parts_32 s with h | ⟨a, r, e, h⟩
      · exact .inl fun x hx => by
          rcases List.mem_cons.1 hx with rfl | hx
          · exact hb
          · exact h x hx
      · exact .inr ⟨b :: a, r, by rw [e]; rfl, fun x hx => by
          rcases List.mem_cons.1 hx with rfl | hx
          · exact hb
          · exact h x hx⟩
theorem split_cut : ∀ (n : Nat) (s : List UInt8), s.length ≤ n → Lib.splitK [32] 0 (Lib.count s [32]) s = cutL s
  | 0, s, h => by
    have : s = [] := List.eq_nil_of_length_eq_zero (by omega)
    subst this
    rfl
  | n + 1, s, h => by
    rcases parts_32 s with hf | ⟨a, r, rfl, hf⟩
    · rw [cutL_free hf, Lib.count_one, List.count_eq_zero.2 fun hm => hf 32 hm rfl]
      rfl
    · rw [cutL_at r hf, Lib.count_one, List.count_append, List.count_eq_zero.2 fun hm => hf 32 hm rfl, List.count_cons_self, Nat.zero_add]
      unfold Lib.splitK
      rw [index_at r hf]
      have h1 : ¬ ((a.length : Int) == -1) = true := by simp
      rw [if_neg h1, ← Lib.count_one, Int.toNat_natCast]
      have h2 : (a ++ 32 :: r).take (a.length + 0) = a := by simp
      have h3 : (a ++ 32 :: r).drop (a.length + [(32 : UInt8)].length) = r := by
        rw [← List.drop_drop]
        simp
      rw [h2, h3, split_cut n r (by rw [List.length_append, List.length_cons] at h; omega)]
/-- The words of a line. -/
def wordsL (s : List UInt8) : List (List UInt8) := (cutL s).filter fun x => !x.isEmpty
/-- The words that end ahead of a place, and where the next begins. -/
def wSt (s : List UInt8) : Nat → List (List UInt8) × Nat
  | 0 => ([], 0)
  | i + 1 => if i = s.length ∨ s[i]? = some 32 then (if (wSt s i).2 < i then (wSt s i).1 ++ [(s.drop (wSt s i).2).take (i - (wSt s i).2)] else (wSt s i).1, i + 1) else wSt s i
theorem words_cons {a : List UInt8} (L : List (List UInt8)) : (a :: L).filter (fun x => !x.isEmpty) = (if 0 < a.length then [a] else []) ++ L.filter (fun x => !x.isEmpty) := by
  cases a with
  | nil => rfl
  | cons b a =>
    have h : 0 < (b :: a).length := Nat.succ_pos _
    rw [if_pos h]
    rfl
theorem wSt_inv (s : List UInt8) : ∀ i, i ≤ s.length → (wSt s i).2 ≤ i ∧ (∀ b ∈ (s.drop (wSt s i).2).take (i - (wSt s i).2), b ≠ 32) ∧ (wSt s i).1 ++ wordsL (s.drop (wSt s i).2) = wordsL s
  | 0, _ => ⟨Nat.le_refl _, fun b h => (by rw [Nat.zero_sub, List.take_zero] at h; cases h), by simp [wSt]⟩
  | i + 1, hi => by
    obtain ⟨h1, h2, h3⟩ := wSt_inv s i (by omega)
    have hil : i < s.length := hi
    have e : s.drop (wSt s i).2 = (s.drop (wSt s i).2).take (i - (wSt s i).2) ++ s[i] :: s.drop (i + 1) := by
      have h4 := (List.take_append_drop (i - (wSt s i).2) (s.drop (wSt s i).2)).symm
      rw [List.drop_drop, show (wSt s i).2 + (i - (wSt s i).2) = i by omega, List.drop_eq_getElem_cons hil] at h4
      exact h4
    have hl : ((s.drop (wSt s i).2).take (i - (wSt s i).2)).length = i - (wSt s i).2 := by rw [List.length_take, List.length_drop]; omega
    by_cases hb : s[i] = 32
    · have hw : wSt s (i + 1) = (if (wSt s i).2 < i then (wSt s i).1 ++ [(s.drop (wSt s i).2).take (i - (wSt s i).2)] else (wSt s i).1, i + 1) := by
        rw [wSt, if_pos (.inr (by rw [List.getElem?_eq_getElem hil, hb]))]
      rw [hw]
      refine ⟨Nat.le_refl _, fun b h => (by rw [Nat.sub_self, List.take_zero] at h; cases h), ?_⟩
      simp only
      rw [← h3]
      have h5 : wordsL (s.drop (wSt s i).2) = (if 0 < i - (wSt s i).2 then [(s.drop (wSt s i).2).take (i - (wSt s i).2)] else []) ++ wordsL (s.drop (i + 1)) := by
        have h6 : cutL (s.drop (wSt s i).2) = (s.drop (wSt s i).2).take (i - (wSt s i).2) :: cutL (s.drop (i + 1)) := by
          conv => lhs; rw [e, hb]
          exact cutL_at _ h2
        unfold wordsL
        rw [h6, words_cons, hl]
      rw [h5]
      by_cases hf : (wSt s i).2 < i
      · rw [if_pos hf, if_pos (by omega), List.append_assoc]
      · rw [if_neg hf, if_neg (by omega), List.nil_append]
    · have hw : wSt s (i + 1) = wSt s i := by
        rw [wSt, if_neg]
        rintro (h | h)
        · omega
        · rw [List.getElem?_eq_getElem hil] at h
          injection h with h
          exact hb h
      rw [hw]
      refine ⟨by omega, fun b h => ?_, h3⟩
      rw [show i + 1 - (wSt s i).2 = (i - (wSt s i).2) + 1 by omega, List.take_add_one] at h
      rcases List.mem_append.1 h with h | h
      · exact h2 b h
      · rw [List.getElem?_drop, show (wSt s i).2 + (i - (wSt s i).2) = i by omega, List.getElem?_eq_getElem hil] at h
        rw [show b = s[i] by simpa using h]
        exact hb
theorem wSt_words (s : List UInt8) : (wSt s (s.length + 1)).1 = wordsL s := by
  obtain ⟨h1, h2, h3⟩ := wSt_inv s s.length (Nat.le_refl _)
  rw [wSt, if_pos (.inl rfl), ← h3]
  simp only
  have e : (s.drop (wSt s s.length).2).take (s.length - (wSt s s.length).2) = s.drop (wSt s s.length).2 := List.take_of_length_le (by rw [List.length_drop]; exact Nat.le_refl _)
  rw [e] at h2 ⊢
  have h5 : wordsL (s.drop (wSt s s.length).2) = if 0 < (s.drop (wSt s s.length).2).length then [s.drop (wSt s s.length).2] else [] := by
    unfold wordsL
    rw [cutL_free h2, words_cons]
    simp
  rw [h5, List.length_drop]
  by_cases hf : (wSt s s.length).2 < s.length
  · rw [if_pos hf, if_pos (by omega)]
  · rw [if_neg hf, if_neg (by omega), List.append_nil]
theorem decFrom_snoc (b : UInt8) : ∀ (t : List UInt8) (acc : Nat), Lib.decFrom acc (t ++ [b]) = (Lib.decFrom acc t).bind fun n => (Lib.digitVal b).map fun d => n * 10 + d
  | [], acc => by
    simp only [List.nil_append, Lib.decFrom]
    cases Lib.digitVal b <;> rfl
  | c :: t, acc => by
    rw [List.cons_append]
    simp only [Lib.decFrom]
    cases Lib.digitVal c with
    | none => rfl
    | some d => exact decFrom_snoc b t _
theorem decFrom_ge : ∀ (t : List UInt8) (acc n : Nat), Lib.decFrom acc t = some n → acc ≤ n
  | [], acc, n, h => by simp only [Lib.decFrom, Option.some.injEq] at h; omega
  | c :: t, acc, n, h => by
    simp only [Lib.decFrom] at h
    cases hd : Lib.digitVal c with
    | none => rw [hd] at h; cases h
    | some d =>
      rw [hd] at h
      have := decFrom_ge t _ n h
      omega
theorem digit_back {b : UInt8} {d : Nat} (h : Lib.digitVal b = some d) : d ≤ 9 ∧ UInt8.ofNat (48 + d) = b := by
  obtain ⟨h1, h2, h3⟩ := Lib.digitVal_eq h
  refine ⟨by omega, ?_⟩
  have : 48 + d = b.toNat := by omega
  rw [this]
  exact UInt8.ofNat_toNat
theorem digit_of {d : Nat} (h : d ≤ 9) : Lib.digitVal (UInt8.ofNat (48 + d)) = some d := by
  have : (UInt8.ofNat (48 + d)).toNat = 48 + d := by
    rw [UInt8.toNat_ofNat']
    omega
  unfold Lib.digitVal
  rw [this, if_pos (by omega)]
  congr 1
  omega
/-- Digits without a needless nought ahead are those of their number. -/
theorem dec_only : ∀ (n : Nat) (t : List UInt8) (m : Nat), t.length ≤ n → t ≠ [] → (t.head? = some 48 → t.length = 1) → Lib.decFrom 0 t = some m → t = Lib.decDigits m
  | 0, t, m, hl, h0, _, _ => absurd (List.eq_nil_of_length_eq_zero (by omega)) h0
  | n + 1, t, m, hl, h0, hh, h => by
    rcases List.eq_nil_or_concat t with e | ⟨u, b, e⟩
    · exact absurd e h0
    rw [List.concat_eq_append] at e
    subst e
    rw [decFrom_snoc] at h
    cases hu : Lib.decFrom 0 u with
    | none => rw [hu] at h; cases h
    | some k =>
      rw [hu] at h
      cases hd : Lib.digitVal b with
      | none => rw [hd] at h; cases h
      | some d =>
        rw [hd] at h
        have hm : m = k * 10 + d := by simpa using h.symm
        obtain ⟨h9, hb⟩ := digit_back hd
        cases u with
        | nil =>
          simp only [Lib.decFrom, Option.some.injEq] at hu
          rw [hm, ← hu, Nat.zero_mul, Nat.zero_add, Lib.decDigits_one (by omega), hb]
          rfl
        | cons c u =>
          have hc : ¬ c = 48 := fun e => by
            have := hh (by rw [e]; rfl)
            simp at this
          have hk : 1 ≤ k := by
            simp only [Lib.decFrom] at hu
            cases hc2 : Lib.digitVal c with
            | none => rw [hc2] at hu; cases hu
            | some x =>
              rw [hc2] at hu
              have h1 := decFrom_ge u _ k hu
              obtain ⟨h2, h3⟩ := digit_back hc2
              have : x ≠ 0 := fun e => hc (by rw [← h3, e]; rfl)
              omega
          have ih := dec_only n (c :: u) k (by rw [List.length_append] at hl; simp at hl ⊢; omega) (by simp) (fun e => absurd (by simpa using e) hc) hu
          rw [hm, Lib.decDigits, dif_neg (by omega), show (k * 10 + d) / 10 = k by omega, show (k * 10 + d) % 10 = d by omega, hb, ← ih]
theorem dec_digits : ∀ (n u : Nat), u ≤ n → Lib.decFrom 0 (Lib.decDigits u) = some u ∧ Lib.decDigits u ≠ [] ∧ (1 ≤ u → (Lib.decDigits u).head? ≠ some 48)
  | 0, u, h => by
    obtain rfl : u = 0 := by omega
    rw [Lib.decDigits_one (by omega)]
    exact ⟨rfl, by simp, fun h => by omega⟩
  | n + 1, u, h => by
    by_cases h10 : u < 10
    · rw [Lib.decDigits_one h10]
      refine ⟨?_, by simp, fun h1 => ?_⟩
      · simp only [Lib.decFrom]
        rw [digit_of (by omega)]
        simp
      · intro e
        simp only [List.head?_cons, Option.some.injEq] at e
        have := congrArg UInt8.toNat e
        rw [UInt8.toNat_ofNat'] at this
        simp at this
        omega
    · obtain ⟨h1, h2, h3⟩ := dec_digits n (u / 10) (by omega)
      rw [Lib.decDigits, dif_neg h10]
      refine ⟨?_, by simp, fun _ => ?_⟩
      · rw [decFrom_snoc, h1, digit_of (by omega)]
        simp
        omega
      · rw [List.head?_append]
        have h4 := h3 (by omega)
        cases hd : Lib.decDigits (u / 10) with
        | nil => exact absurd hd h2
        | cons a l =>
          rw [hd] at h4
          simpa using h4
theorem parse_dec : ∀ (t : List UInt8) (acc n : Nat), Lib.decFrom acc t = some n → n < 1000000000000000000 → Lib.parseUint10 acc t = .ok n
  | [], acc, n, h, _ => by simp only [Lib.decFrom, Option.some.injEq] at h; rw [Lib.parseUint10, h]
  | c :: t, acc, n, h, hn => by
    simp only [Lib.decFrom] at h
    cases hd : Lib.digitVal c with
    | none => rw [hd] at h; cases h
    | some d =>
      rw [hd] at h
      have h1 := decFrom_ge t _ n h
      obtain ⟨h2, h3, h4⟩ := Lib.digitVal_eq hd
      rw [Lib.parseUint10, if_pos ⟨h2, h3⟩, if_neg (by omega), if_neg (by omega), ← h4]
      exact parse_dec t _ n h hn
/-- The number that a word tells. -/
def negL (l : List UInt8) : Bool := decide (l.head? = some 45)
def magL (l : List UInt8) : List UInt8 := if negL l = true then l.tail else l
def shutL (l : List UInt8) : Bool := decide ((magL l).length = 0 ∨ 18 < (magL l).length ∨ ((magL l).head? = some 48 ∧ (1 < (magL l).length ∨ negL l = true)))
def numV (l : List UInt8) : Option Int := if shutL l = true then none else (Lib.decFrom 0 (magL l)).map fun (m : Nat) => if negL l = true then -(m : Int) else (m : Int)
theorem dec_lt18 {t : List UInt8} {m : Nat} (h : Lib.decFrom 0 t = some m) (hl : t.length ≤ 18) : m < 1000000000000000000 := by
  have h1 := Lib.decFrom_lt t 0 m h
  have h2 : (10 : Nat) ^ t.length ≤ 10 ^ 18 := Nat.pow_le_pow_right (by omega) hl
  have h3 : (10 : Nat) ^ 18 = 1000000000000000000 := by decide
  omega
theorem digits_len {u : Nat} (h : u < 1000000000000000000) : (Lib.decDigits u).length ≤ 18 := by
  rcases Nat.lt_or_ge u 1 with h0 | h0
  · rw [Lib.decDigits_one (by omega)]; simp
  · obtain ⟨h1, h2, h3⟩ := dec_digits u u (Nat.le_refl _)
    rw [Lib.decDigits_length]
    rcases Nat.lt_or_ge 18 (Lib.nDigits u) with h4 | h4
    · exfalso
      have h5 : ∀ (k u : Nat), k < Lib.nDigits u → 1 ≤ u → 10 ^ k ≤ u := by
        intro k
        induction k with
        | zero => intro u _ h; simpa using h
        | succ k ih =>
          intro u hk _
          rw [Lib.nDigits] at hk
          split at hk
          · omega
          · have := ih (u / 10) (by omega) (by omega)
            rw [Nat.pow_succ]
            omega
      have h6 := h5 18 u h4 h0
      have h7 : (10 : Nat) ^ 18 = 1000000000000000000 := by decide
      omega
    · exact h4
/-- A word tells a number if it is the number's own text, and has at most 18 digits. -/
theorem num_itoa (l : List UInt8) (v : Int) : numV l = some v ↔ l = Lib.itoa v ∧ -999999999999999999 ≤ v ∧ v ≤ 999999999999999999 := by
  constructor
  · intro h
    unfold numV at h
    split at h
    · cases h
    rename_i hs
    unfold shutL at hs
    simp only [decide_eq_true_eq, not_or, not_and] at hs
    obtain ⟨h0, h18, h48⟩ := hs
    cases hd : Lib.decFrom 0 (magL l) with
    | none => rw [hd] at h; cases h
    | some m =>
      rw [hd] at h
      simp only [Option.map_some, Option.some.injEq] at h
      have hm := dec_lt18 hd (by omega)
      have e := dec_only _ (magL l) m (Nat.le_refl _) (fun e => h0 (by rw [e]; rfl)) (fun hh => by have := (h48 hh).1; omega) hd
      cases hn : negL l with
      | true =>
        rw [hn] at h
        rw [if_pos rfl] at h
        have h1 : 1 ≤ m := by
          rcases Nat.eq_zero_or_pos m with z | z
          · rw [z, Lib.decDigits_one (by omega)] at e
            exact absurd hn ((h48 (by rw [e]; rfl)).2)
          · exact z
        have hl : l = 45 :: magL l := by
          unfold negL at hn
          have hn2 := of_decide_eq_true hn
          unfold magL negL
          rw [if_pos hn]
          cases l with
          | nil => cases hn2
          | cons a r =>
            simp only [List.head?_cons, Option.some.injEq] at hn2
            rw [hn2]
            rfl
        refine ⟨?_, by omega, by omega⟩
        unfold Lib.itoa
        rw [if_pos (by omega), hl, e, ← h]
        simp
      | false =>
        rw [hn] at h
        rw [if_neg (by decide)] at h
        have hl : magL l = l := by unfold magL; rw [hn]; rfl
        rw [hl] at e
        refine ⟨?_, by omega, by omega⟩
        unfold Lib.itoa
        rw [if_neg (by omega), e, ← h]
        simp
  · rintro ⟨rfl, h1, h2⟩
    unfold Lib.itoa
    by_cases hv : v < 0
    · rw [if_pos hv]
      obtain ⟨d1, d2, d3⟩ := dec_digits v.natAbs v.natAbs (Nat.le_refl _)
      have hn : negL (45 :: Lib.decDigits v.natAbs) = true := rfl
      have hm : magL (45 :: Lib.decDigits v.natAbs) = Lib.decDigits v.natAbs := rfl
      have hl := digits_len (u := v.natAbs) (by omega)
      have hs : shutL (45 :: Lib.decDigits v.natAbs) = false := by
        unfold shutL
        rw [hm]
        refine decide_eq_false ?_
        rintro (h | h | ⟨h, _⟩)
        · exact d2 (List.eq_nil_of_length_eq_zero h)
        · omega
        · exact d3 (by omega) h
      unfold numV
      rw [hs, if_neg (by decide), hm, d1, hn]
      refine congrArg some ?_
      show -((v.natAbs : Nat) : Int) = v
      omega
    · rw [if_neg hv]
      obtain ⟨d1, d2, d3⟩ := dec_digits v.toNat v.toNat (Nat.le_refl _)
      have hn : negL (Lib.decDigits v.toNat) = false := by
        unfold negL
        refine decide_eq_false fun h => ?_
        cases hd : Lib.decDigits v.toNat with
        | nil => exact d2 hd
        | cons a r =>
          rw [hd] at h d1
          simp only [List.head?_cons, Option.some.injEq] at h
          rw [h] at d1
          simp only [Lib.decFrom] at d1
          rw [show Lib.digitVal 45 = none from rfl] at d1
          cases d1
      have hm : magL (Lib.decDigits v.toNat) = Lib.decDigits v.toNat := by unfold magL; rw [hn]; rfl
      have hl := digits_len (u := v.toNat) (by omega)
      have hs : shutL (Lib.decDigits v.toNat) = false := by
        unfold shutL
        rw [hm, hn]
        refine decide_eq_false ?_
        rintro (h | h | ⟨h, h' | h'⟩)
        · exact d2 (List.eq_nil_of_length_eq_zero h)
        · omega
        · rcases Nat.lt_or_ge v.toNat 1 with z | z
          · rw [show v.toNat = 0 by omega, Lib.decDigits_one (by omega)] at h'
            simp at h'
          · exact d3 z h
        · cases h'
      unfold numV
      rw [hs, if_neg (by decide), hm, d1, hn]
      refine congrArg some ?_
      show ((v.toNat : Nat) : Int) = v
      omega
theorem num_atoi {l : List UInt8} {v : Int} (h : numV l = some v) : Lib.atoiAll l = .ok v := by
  obtain ⟨rfl, h1, h2⟩ := (num_itoa l v).1 h
  unfold Lib.itoa
  by_cases hv : v < 0
  · rw [if_pos hv]
    obtain ⟨d1, d2, _⟩ := dec_digits v.natAbs v.natAbs (Nat.le_refl _)
    have hp := parse_dec _ 0 _ d1 (by omega)
    unfold Lib.atoiAll Lib.parseMag
    simp only [show (45 : UInt8).toNat = 45 from rfl]
    simp only [or_true, if_true, if_neg d2, hp]
    rw [if_neg (fun h => h.1 trivial), if_neg (fun h => by have := h.2; omega)]
    congr 1
    omega
  · rw [if_neg hv]
    obtain ⟨d1, d2, _⟩ := dec_digits v.toNat v.toNat (Nat.le_refl _)
    have hp := parse_dec _ 0 _ d1 (by omega)
    cases hd : Lib.decDigits v.toNat with
    | nil => exact absurd hd d2
    | cons a r =>
      have hdig : ∃ d, Lib.digitVal a = some d := Lib.digit_of_decFrom _ _ _ d1 0 a (by rw [hd]; rfl)
      obtain ⟨d, hdg⟩ := hdig
      obtain ⟨g1, g2, _⟩ := Lib.digitVal_eq hdg
      rw [hd] at hp
      unfold Lib.atoiAll Lib.parseMag
      simp only [if_neg (show ¬ (a.toNat = 43 ∨ a.toNat = 45) by omega), hp]
      rw [if_neg (List.cons_ne_nil _ _)]
      simp only
      rw [if_neg (fun h => by have := h.2; omega), if_neg (fun h => by have := h.1; omega), if_neg (by omega)]
      congr 1
      omega
end Go.Proofs.YtmogcfiioajaeaaDoor
