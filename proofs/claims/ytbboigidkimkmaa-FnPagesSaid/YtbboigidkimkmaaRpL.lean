/-
  Reading a page along bytes, as plain data: as the program does it, as the specification does it, and that both come to one end.
-/
import Derived.Test.YtbboigidkimkmaaPageL
import Derived.Laws.BytesArg
namespace Go.Proofs.Ytbboigidkimkmaa
open Go.RowKit

/-- One reading behind another. -/
def bd {σ α β : Type} (f : σ → α × σ) (g : α → σ → β × σ) (s : σ) : β × σ := g (f s).1 (f s).2
/-- The same reading n times. -/
def rep {σ α : Type} (f : σ → α × σ) : Nat → σ → List α × σ
  | 0, s => ([], s)
  | n + 1, s => ((f s).1 :: (rep f n (f s).2).1, (rep f n (f s).2).2)
theorem rep_snoc {σ α : Type} (f : σ → α × σ) (n : Nat) (s : σ) : rep f (n + 1) s = ((rep f n s).1 ++ [(f (rep f n s).2).1], (f (rep f n s).2).2) := by
  induction n generalizing s with
  | zero => rfl
  | succ n ih =>
    rw [rep, ih]
    rfl
theorem rep_len {σ α : Type} (f : σ → α × σ) : ∀ (n : Nat) (s : σ), (rep f n s).1.length = n
  | 0, _ => rfl
  | n + 1, s => by simp [rep, rep_len f n]
/-- What is left to be read, and whether it was too short. -/
abbrev Rs := List Int × Bool
def tk (n : Nat) (s : Rs) : List Int × Rs := if s.1.length < n then (List.replicate n 0, ([], true)) else (s.1.take n, (s.1.drop n, s.2))
def rOne : Rs → Int × Rs := bd (tk 1) fun t s => (t.getD 0 0, s)
def rTwo : Rs → Int × Rs := bd (tk 2) fun t s => (t.getD 0 0 * 256 + t.getD 1 0, s)
def rText : Rs → ByteArray × Rs := bd rOne fun n => bd (tk n.toNat) fun t s => (strOfNums t, s)
def rEnt : Rs → EntD × Rs := bd rText fun k => bd rText fun v s => (⟨k, v⟩, s)
def rDel : Rs → DelD × Rs := bd rOne fun d => bd rText fun k => bd rText fun v => bd rTwo fun t s => (⟨d, k, v, t⟩, s)
/-- Bytes. -/
def By (xs : List Int) : Prop := ∀ x ∈ xs, 0 ≤ x ∧ x ≤ 255
theorem By.take {xs : List Int} (h : By xs) (n : Nat) : By (xs.take n) := fun x hx => h x (List.mem_of_mem_take hx)
theorem By.drop {xs : List Int} (h : By xs) (n : Nat) : By (xs.drop n) := fun x hx => h x (List.mem_of_mem_drop hx)
theorem By.getD {xs : List Int} (h : By xs) (i : Nat) : 0 ≤ xs.getD i 0 ∧ xs.getD i 0 ≤ 255 := by
  rw [List.getD_eq_getElem?_getD]
  cases hi : xs[i]? with
  | none => simp
  | some x => exact h x (List.mem_of_getElem? hi)
/-- A reading of bytes leaves bytes, no more than there were, and what was short stays so. -/
structure Good {α : Type} (f : Rs → α × Rs) : Prop where
  by_ : ∀ s, By s.1 → By (f s).2.1
  less : ∀ s, (f s).2.1.length ≤ s.1.length
  short : ∀ s, s.2 = true → (f s).2.2 = true
theorem Good.bd {α β : Type} {f : Rs → α × Rs} {g : α → Rs → β × Rs} (hf : Good f) (hg : ∀ a, Good (g a)) : Good (bd f g) :=
  ⟨fun s h => (hg _).by_ _ (hf.by_ s h), fun s => Nat.le_trans ((hg _).less _) (hf.less s), fun s h => (hg _).short _ (hf.short s h)⟩
theorem Good.pure {α : Type} (a : α) : Good (fun s => (a, s)) := ⟨fun _ h => h, fun _ => Nat.le_refl _, fun _ h => h⟩
theorem Good.rep {α : Type} {f : Rs → α × Rs} (hf : Good f) (n : Nat) : Good (rep f n) := by
  induction n with
  | zero => exact Good.pure _
  | succ n ih => exact ⟨fun s h => ih.by_ _ (hf.by_ s h), fun s => Nat.le_trans (ih.less _) (hf.less s), fun s h => ih.short _ (hf.short s h)⟩
theorem good_tk (n : Nat) : Good (tk n) := by
  refine ⟨fun s h => ?_, fun s => ?_, fun s h => ?_⟩ <;> unfold tk <;> split
  · intro x hx; cases hx
  · exact h.drop n
  · simp
  · simp
  · rfl
  · exact h
theorem good_one : Good rOne := (good_tk 1).bd fun _ => Good.pure _
theorem good_two : Good rTwo := (good_tk 2).bd fun _ => Good.pure _
theorem good_text : Good rText := good_one.bd fun _ => (good_tk _).bd fun _ => Good.pure _
theorem good_ent : Good rEnt := good_text.bd fun _ => good_text.bd fun _ => Good.pure _
theorem good_del : Good rDel := good_one.bd fun _ => good_text.bd fun _ => good_text.bd fun _ => good_two.bd fun _ => Good.pure _
theorem tk_by {s : Rs} (h : By s.1) (n : Nat) : By (tk n s).1 := by
  unfold tk
  split
  · intro x hx
    rw [List.mem_replicate] at hx
    rw [hx.2]
    omega
  · exact h.take n
theorem tk_len (n : Nat) (s : Rs) : (tk n s).1.length = n := by
  unfold tk
  split
  · simp
  · simp; omega
theorem rOne_le {s : Rs} (h : By s.1) : 0 ≤ (rOne s).1 ∧ (rOne s).1 ≤ 255 := (tk_by h 1).getD 0
theorem rTwo_le {s : Rs} (h : By s.1) : 0 ≤ (rTwo s).1 ∧ (rTwo s).1 ≤ 65535 := by
  have a := (tk_by h 2).getD 0
  have b := (tk_by h 2).getD 1
  have e : (rTwo s).1 = (tk 2 s).1.getD 0 0 * 256 + (tk 2 s).1.getD 1 0 := rfl
  rw [e]
  omega
/-! ### The specification's reader: a place and a flag -/
abbrev Ss := Nat × Bool
def sOne (xs : List Int) (s : Ss) : Int × Ss := if s.2 = true ∨ xs.length ≤ s.1 then (0, (s.1, true)) else (xs.getD s.1 0, (s.1 + 1, false))
def sTwo (xs : List Int) : Ss → Int × Ss := bd (sOne xs) fun a => bd (sOne xs) fun b s => (a * 256 + b, s)
def sLn (xs : List Int) (n : Nat) (s : Ss) : ByteArray × Ss := if s.2 = true ∨ xs.length < s.1 + n then (ByteArray.empty, (s.1, true)) else (strOfNums ((xs.drop s.1).take n), (s.1 + n, false))
def sLine (xs : List Int) : Ss → ByteArray × Ss := bd (sOne xs) fun n => sLn xs n.toNat
def sEnt (xs : List Int) : Ss → EntD × Ss := bd (sLine xs) fun k => bd (sLine xs) fun v s => (⟨k, v⟩, s)
def sDel (xs : List Int) : Ss → DelD × Ss := bd (sOne xs) fun d => bd (sLine xs) fun k => bd (sLine xs) fun v => bd (sTwo xs) fun t s => (⟨d, k, v, t⟩, s)
/-- A reading n times, as long as nothing is bad. -/
def repS {α : Type} (f : Ss → α × Ss) : Nat → Ss → List α × Ss
  | 0, s => ([], s)
  | n + 1, s => if s.2 = true then ([], s) else ((f s).1 :: (repS f n (f s).2).1, (repS f n (f s).2).2)
theorem repS_bad {α : Type} {f : Ss → α × Ss} {s : Ss} (h : s.2 = true) (n : Nat) : repS f n s = ([], s) := by
  cases n with
  | zero => rfl
  | succ n => rw [repS, if_pos h]
/-! ### Both come to one end -/
/-- The two readers stand at one place, or both are short. -/
def Both (xs : List Int) (r : Rs) (s : Ss) : Prop := r.2 = s.2 ∧ (s.2 = false → r.1 = xs.drop s.1 ∧ s.1 ≤ xs.length)
/-- Two readings that do the same, as long as nothing is short. -/
structure Like {α : Type} (xs : List Int) (f : Rs → α × Rs) (g : Ss → α × Ss) : Prop where
  both : ∀ r s, Both xs r s → Both xs (f r).2 (g s).2
  same : ∀ r s, Both xs r s → (g s).2.2 = false → (f r).1 = (g s).1
  bad : ∀ s, s.2 = true → (g s).2.2 = true
theorem Like.ok {α : Type} {xs : List Int} {f : Rs → α × Rs} {g : Ss → α × Ss} (h : Like xs f g) {s : Ss} (hb : (g s).2.2 = false) : s.2 = false := by
  cases h0 : s.2 with
  | false => rfl
  | true => rw [h.bad s h0] at hb; cases hb
theorem both_bad {xs : List Int} {r : Rs} {s : Ss} (h1 : r.2 = true) (h2 : s.2 = true) : Both xs r s := ⟨h1.trans h2.symm, fun h => by rw [h2] at h; cases h⟩
theorem Like.bd {α β : Type} {xs : List Int} {f : Rs → α × Rs} {g : Ss → α × Ss} {f' : α → Rs → β × Rs} {g' : α → Ss → β × Ss} (h : Like xs f g) (h' : ∀ a, Like xs (f' a) (g' a)) (hf : ∀ a, Good (f' a)) : Like xs (bd f f') (bd g g') := by
  refine ⟨fun r s hb => ?_, fun r s hb hg => ?_, fun s hs => (h' _).bad _ (h.bad s hs)⟩
  · by_cases hg : (g s).2.2 = true
    · exact both_bad ((hf _).short _ ((h.both r s hb).1.trans hg)) ((h' _).bad _ hg)
    · have hg' : (g s).2.2 = false := by simpa using hg
      show Both xs (f' (f r).1 (f r).2).2 (g' (g s).1 (g s).2).2
      rw [h.same r s hb hg']
      exact (h' _).both _ _ (h.both r s hb)
  · have hg' : (g s).2.2 = false := (h' _).ok hg
    show (f' (f r).1 (f r).2).1 = (g' (g s).1 (g s).2).1
    rw [h.same r s hb hg']
    exact (h' _).same _ _ (h.both r s hb) hg
theorem Like.pure {α : Type} {xs : List Int} (a : α) : Like xs (fun r => (a, r)) (fun s => (a, s)) := ⟨fun _ _ h => h, fun _ _ _ _ => rfl, fun _ h => h⟩
theorem Like.rep {α : Type} {xs : List Int} {f : Rs → α × Rs} {g : Ss → α × Ss} (h : Like xs f g) (hf : Good f) (n : Nat) : Like xs (rep f n) (repS g n) := by
  induction n with
  | zero => exact Like.pure _
  | succ n ih =>
    refine ⟨fun r s hb => ?_, fun r s hb hg => ?_, fun s hs => ?_⟩
    · by_cases hs : s.2 = true
      · rw [repS_bad hs]
        exact both_bad ((hf.rep (n + 1)).short _ (hb.1.trans hs)) hs
      · rw [repS, if_neg hs]
        exact ih.both _ _ (h.both r s hb)
    · by_cases hs : s.2 = true
      · rw [repS_bad hs] at hg
        simp only at hg
        rw [hs] at hg
        cases hg
      · rw [repS, if_neg hs] at hg ⊢
        rw [Go.Proofs.Ytbboigidkimkmaa.rep]
        simp only at hg ⊢
        rw [h.same r s hb (ih.ok hg), ih.same _ _ (h.both r s hb) hg]
    · rw [repS_bad hs]
      exact hs
theorem sOne_bad {xs : List Int} {s : Ss} (h : s.2 = true) : (sOne xs s).2.2 = true := by unfold sOne; rw [if_pos (.inl h)]
theorem one_cases {xs : List Int} {r : Rs} {s : Ss} (h : Both xs r s) (hs : s.2 = false) :
    (xs.length ≤ s.1 ∧ r.1 = [] ∧ sOne xs s = (0, (s.1, true)) ∧ tk 1 r = ([0], ([], true))) ∨
    (s.1 < xs.length ∧ sOne xs s = (xs.getD s.1 0, (s.1 + 1, false)) ∧ rOne r = (xs.getD s.1 0, (xs.drop (s.1 + 1), false)) ∧ r.1 = xs.getD s.1 0 :: xs.drop (s.1 + 1)) := by
  obtain ⟨h1, h2⟩ := h
  obtain ⟨h3, h4⟩ := h2 hs
  by_cases hl : xs.length ≤ s.1
  · have h0 : r.1 = [] := by rw [h3]; exact List.drop_of_length_le hl
    refine .inl ⟨hl, h0, by unfold sOne; rw [if_pos (.inr hl)], ?_⟩
    unfold tk
    rw [h0]
    rfl
  · have hl' : s.1 < xs.length := by omega
    have e : r.1 = xs.getD s.1 0 :: xs.drop (s.1 + 1) := by
      rw [h3, List.drop_eq_getElem_cons hl']
      simp [List.getD_eq_getElem?_getD, hl']
    refine .inr ⟨hl', ?_, ?_, e⟩
    · unfold sOne
      rw [if_neg (by rw [hs]; simp; omega)]
    · unfold rOne bd tk
      rw [e, if_neg (by simp), h1, hs]
      simp
theorem like_one (xs : List Int) : Like xs rOne (sOne xs) := by
  refine ⟨fun r s hb => ?_, fun r s hb hg => ?_, fun s h => sOne_bad h⟩
  · by_cases hs : s.2 = true
    · exact both_bad (good_one.short _ (hb.1.trans hs)) (sOne_bad hs)
    · rcases one_cases hb (by simpa using hs) with ⟨_, _, e1, e2⟩ | ⟨hl, e1, e2, _⟩
      · unfold rOne bd
        rw [e1, e2]
        exact both_bad rfl rfl
      · rw [e1, e2]
        exact ⟨rfl, fun _ => ⟨rfl, hl⟩⟩
  · have hs : s.2 = false := by
      cases h0 : s.2 with
      | false => rfl
      | true => rw [sOne_bad h0] at hg; cases hg
    rcases one_cases hb hs with ⟨_, _, e1, e2⟩ | ⟨_, e1, e2, _⟩
    · rw [e1] at hg; cases hg
    · rw [e1, e2]
theorem two_ones (r : Rs) : (rTwo r).2.2 = (rOne (rOne r).2).2.2 ∧ ((rTwo r).2.2 = false → (rTwo r).2 = (rOne (rOne r).2).2 ∧ (rTwo r).1 = (rOne r).1 * 256 + (rOne (rOne r).2).1) := by
  obtain ⟨xs, b⟩ := r
  unfold rTwo rOne bd
  match xs with
  | [] => simp [tk]
  | [x] => simp [tk]
  | x :: y :: rest =>
    have e2 : tk 2 (x :: y :: rest, b) = ([x, y], (rest, b)) := by unfold tk; rw [if_neg (by simp)]; rfl
    have e1 : tk 1 (x :: y :: rest, b) = ([x], (y :: rest, b)) := by unfold tk; rw [if_neg (by simp)]; rfl
    have e0 : tk 1 (y :: rest, b) = ([y], (rest, b)) := by unfold tk; rw [if_neg (by simp)]; rfl
    simp [e2, e1, e0]
theorem like_two (xs : List Int) : Like xs rTwo (sTwo xs) := by
  have h := (like_one xs).bd (f' := fun a => bd rOne fun b s => (a * 256 + b, s)) (g' := fun a => bd (sOne xs) fun b s => (a * 256 + b, s)) (fun a => (like_one xs).bd (fun b => Like.pure _) (fun b => Good.pure _)) (fun a => good_one.bd fun b => Good.pure _)
  have e : ∀ r, (bd rOne (fun a => bd rOne fun b s => (a * 256 + b, s)) r) = ((rOne r).1 * 256 + (rOne (rOne r).2).1, (rOne (rOne r).2).2) := fun r => rfl
  refine ⟨fun r s hb => ?_, fun r s hb hg => ?_, fun s hs => h.bad s hs⟩
  · obtain ⟨t1, t2⟩ := two_ones r
    have hB := h.both r s hb
    rw [e] at hB
    by_cases hg : (sTwo xs s).2.2 = true
    · exact both_bad (by rw [t1]; exact hB.1.trans hg) hg
    · rw [(t2 (by rw [t1]; exact hB.1.trans (show (sTwo xs s).2.2 = false by simpa using hg))).1]
      exact hB
  · obtain ⟨t1, t2⟩ := two_ones r
    have hB := h.both r s hb
    have hS := h.same r s hb hg
    rw [e] at hB hS
    rw [(t2 (by rw [t1]; exact hB.1.trans hg)).2]
    exact hS
theorem like_ln (xs : List Int) (n : Nat) : Like xs (bd (tk n) fun t s => (strOfNums t, s)) (sLn xs n) := by
  have bad : ∀ s : Ss, s.2 = true → (sLn xs n s).2.2 = true := fun s h => by unfold sLn; rw [if_pos (.inl h)]
  have key : ∀ (r : Rs) (s : Ss), Both xs r s → s.2 = false → (xs.length < s.1 + n ∧ sLn xs n s = (ByteArray.empty, (s.1, true)) ∧ (tk n r).2 = ([], true)) ∨ (s.1 + n ≤ xs.length ∧ sLn xs n s = (strOfNums ((xs.drop s.1).take n), (s.1 + n, false)) ∧ tk n r = ((xs.drop s.1).take n, (xs.drop (s.1 + n), false))) := by
    rintro r s ⟨h1, h2⟩ hs
    obtain ⟨h3, h4⟩ := h2 hs
    by_cases hl : xs.length < s.1 + n
    · refine .inl ⟨hl, by unfold sLn; rw [if_pos (.inr hl)], ?_⟩
      unfold tk
      rw [if_pos (by rw [h3, List.length_drop]; omega)]
    · refine .inr ⟨by omega, by unfold sLn; rw [if_neg (by rw [hs]; simp; omega)], ?_⟩
      unfold tk
      rw [if_neg (by rw [h3, List.length_drop]; omega), h3, h1, hs, List.drop_drop]
  refine ⟨fun r s hb => ?_, fun r s hb hg => ?_, bad⟩
  · by_cases hs : s.2 = true
    · exact both_bad (((good_tk n).bd fun _ => Good.pure _).short _ (hb.1.trans hs)) (bad s hs)
    · rcases key r s hb (by simpa using hs) with ⟨_, e1, e2⟩ | ⟨hl, e1, e2⟩
      · unfold bd
        rw [e1, e2]
        exact both_bad rfl rfl
      · unfold bd
        rw [e1, e2]
        exact ⟨rfl, fun _ => ⟨rfl, hl⟩⟩
  · have hs : s.2 = false := by
      cases h0 : s.2 with
      | false => rfl
      | true => rw [bad s h0] at hg; cases hg
    rcases key r s hb hs with ⟨_, e1, e2⟩ | ⟨hl, e1, e2⟩
    · rw [e1] at hg; cases hg
    · unfold bd
      rw [e1, e2]
theorem like_line (xs : List Int) : Like xs rText (sLine xs) := (like_one xs).bd (fun _ => like_ln xs _) (fun _ => (good_tk _).bd fun _ => Good.pure _)
theorem like_ent (xs : List Int) : Like xs rEnt (sEnt xs) := (like_line xs).bd (fun _ => (like_line xs).bd (fun _ => Like.pure _) (fun _ => Good.pure _)) (fun _ => good_text.bd fun _ => Good.pure _)
theorem like_del (xs : List Int) : Like xs rDel (sDel xs) :=
  (like_one xs).bd (fun _ => (like_line xs).bd (fun _ => (like_line xs).bd (fun _ => (like_two xs).bd (fun _ => Like.pure _) (fun _ => Good.pure _)) (fun _ => good_two.bd fun _ => Good.pure _)) (fun _ => good_text.bd fun _ => good_two.bd fun _ => Good.pure _))
    (fun _ => good_text.bd fun _ => good_text.bd fun _ => good_two.bd fun _ => Good.pure _)
/-- A page along bytes, both ways. -/
structure PgR where
  lo : ByteArray
  hi : ByteArray
  r : Int
  es : List EntD
  ds : List DelD
def rPage : Rs → PgR × Rs := bd rText fun lo => bd rText fun hi => bd rTwo fun r => bd rOne fun n => bd (rep rEnt n.toNat) fun es => bd rOne fun m => bd (rep rDel m.toNat) fun ds s => (⟨lo, hi, r - 1, es, ds⟩, s)
def sPage (xs : List Int) : Ss → PgR × Ss := bd (sLine xs) fun lo => bd (sLine xs) fun hi => bd (sTwo xs) fun r => bd (sOne xs) fun n => bd (repS (sEnt xs) n.toNat) fun es => bd (sOne xs) fun m => bd (repS (sDel xs) m.toNat) fun ds s => (⟨lo, hi, r - 1, es, ds⟩, s)
theorem like_page (xs : List Int) : Like xs rPage (sPage xs) := by
  have g7 : ∀ (lo hi : ByteArray) (r : Int) (es : List EntD) (ds : List DelD), Good (fun s => ((⟨lo, hi, r - 1, es, ds⟩ : PgR), s)) := fun _ _ _ _ _ => Good.pure _
  have g6 : ∀ (lo hi : ByteArray) (r : Int) (es : List EntD) (m : Int), Good (bd (rep rDel m.toNat) fun ds s => ((⟨lo, hi, r - 1, es, ds⟩ : PgR), s)) := fun _ _ _ _ _ => (good_del.rep _).bd fun _ => g7 _ _ _ _ _
  have g5 : ∀ (lo hi : ByteArray) (r : Int) (es : List EntD), Good (bd rOne fun m => bd (rep rDel m.toNat) fun ds s => ((⟨lo, hi, r - 1, es, ds⟩ : PgR), s)) := fun _ _ _ _ => good_one.bd fun _ => g6 _ _ _ _ _
  have g4 : ∀ (lo hi : ByteArray) (r n : Int), Good (bd (rep rEnt n.toNat) fun es => bd rOne fun m => bd (rep rDel m.toNat) fun ds s => ((⟨lo, hi, r - 1, es, ds⟩ : PgR), s)) := fun _ _ _ _ => (good_ent.rep _).bd fun _ => g5 _ _ _ _
  have g3 : ∀ (lo hi : ByteArray) (r : Int), Good (bd rOne fun n => bd (rep rEnt n.toNat) fun es => bd rOne fun m => bd (rep rDel m.toNat) fun ds s => ((⟨lo, hi, r - 1, es, ds⟩ : PgR), s)) := fun _ _ _ => good_one.bd fun _ => g4 _ _ _ _
  have g2 : ∀ (lo hi : ByteArray), Good (bd rTwo fun r => bd rOne fun n => bd (rep rEnt n.toNat) fun es => bd rOne fun m => bd (rep rDel m.toNat) fun ds s => ((⟨lo, hi, r - 1, es, ds⟩ : PgR), s)) := fun _ _ => good_two.bd fun _ => g3 _ _ _
  have g1 : ∀ (lo : ByteArray), Good (bd rText fun hi => bd rTwo fun r => bd rOne fun n => bd (rep rEnt n.toNat) fun es => bd rOne fun m => bd (rep rDel m.toNat) fun ds s => ((⟨lo, hi, r - 1, es, ds⟩ : PgR), s)) := fun _ => good_text.bd fun _ => g2 _ _
  exact (like_line xs).bd (fun _ => (like_line xs).bd (fun _ => (like_two xs).bd (fun _ => (like_one xs).bd (fun _ => ((like_ent xs).rep good_ent _).bd (fun _ => (like_one xs).bd (fun _ => ((like_del xs).rep good_del _).bd (fun _ => Like.pure _) (fun _ => g7 _ _ _ _ _)) (fun _ => g6 _ _ _ _ _)) (fun _ => g5 _ _ _ _)) (fun _ => g4 _ _ _ _)) (fun _ => g3 _ _ _)) (fun _ => g2 _ _)) (fun _ => g1 _)
/-- What ReadPage answers. -/
def rdOK (xs : List Int) : Bool := !(rPage (xs, false)).2.2 && decide ((rPage (xs, false)).2.1 = []) && okPage (rPage (xs, false)).1.lo (rPage (xs, false)).1.hi (rPage (xs, false)).1.r (rPage (xs, false)).1.es (rPage (xs, false)).1.ds
theorem rd_same (xs : List Int) : rdOK xs = (!(sPage xs (0, false)).2.2 && decide ((sPage xs (0, false)).2.1 = xs.length) && okPage (sPage xs (0, false)).1.lo (sPage xs (0, false)).1.hi (sPage xs (0, false)).1.r (sPage xs (0, false)).1.es (sPage xs (0, false)).1.ds) ∧ (rdOK xs = true → (rPage (xs, false)).1 = (sPage xs (0, false)).1) := by
  have h0 : Both xs (xs, false) (0, false) := ⟨rfl, fun _ => ⟨rfl, Nat.zero_le _⟩⟩
  have h1 := (like_page xs).both _ _ h0
  have h2 := (like_page xs).same _ _ h0
  unfold rdOK
  generalize rPage (xs, false) = a at *
  generalize sPage xs (0, false) = b at *
  rw [h1.1]
  cases hb : b.2.2 with
  | true => exact ⟨by simp, fun h => by simp at h⟩
  | false =>
    rw [h2 hb]
    obtain ⟨h3, h4⟩ := h1.2 hb
    have e : decide (a.2.1 = []) = decide (b.2.1 = xs.length) := by
      rw [h3, decide_eq_decide, List.drop_eq_nil_iff]
      omega
    rw [e]
    exact ⟨rfl, fun _ => rfl⟩
end Go.Proofs.Ytbboigidkimkmaa
