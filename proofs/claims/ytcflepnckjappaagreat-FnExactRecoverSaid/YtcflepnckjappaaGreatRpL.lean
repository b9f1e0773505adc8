/-
  Reading a page along bytes, as plain data: as the program does it, as the specification does it, and that both come to one end.
-/
import Derived.Test.YtcflepnckjappaaGreatPageL
import Derived.Laws.BytesArg
namespace Go.Proofs.YtcflepnckjappaaGreat
open Go.RowKit

/-- One reading behind another. -/
def bd {σ α β : Type} (f : σ → α × σ) (g : α → σ → β × σ) (s : σ) : β × σ := g (f s).1 (f s).2
/-- The same reading n times. -/
def rep {σ α : Type} (f : σ → α × σ) : Nat → σ → List α × σ
  | 0, s => ([], s)
  | n + 1, s => ((f s).1 :: (rep f n (f s).2).1, (rep f n (f s).2).2)
/-- What is left to be read, and whether it was too short. -/
abbrev Rs := List Int × Bool
def tk (n : Nat) (s : Rs) : List Int × Rs := if s.1.length < n then (List.replicate n 0, ([], true)) else (s.1.take n, (s.1.drop n, s.2))
def rOne : Rs → Int × Rs := bd (tk 1) fun t s => (t.getD 0 0, s)
def rText : Rs → ByteArray × Rs := bd rOne fun n => bd (tk n.toNat) fun t s => (strOfNums t, s)
/-- Bytes. -/
def By (xs : List Int) : Prop := ∀ x ∈ xs, 0 ≤ x ∧ x ≤ 255
theorem By.take {xs : List Int} (h : By xs) (n : Nat) : By (xs.take n) := fun x hx => h x (List.mem_of_mem_take hx)
theorem By.drop {xs : List Int} (h : By xs) (n : Nat) : By (xs.drop n) := fun x hx => h x (List.mem_of_mem_drop hx)
theorem By.getD {xs : List Int} (h : By xs) (i : Nat) : 0 ≤ xs.getD i 0 ∧ xs.getD i 0 ≤ 255 := by
  rw [List.getD_eq_getElem?_getD]
  cases hi : xs[i]? with
  | none => simp
  | some x => exact h x (List.mem_of_getElem? hi)
/-- A reading of bytes leaves bytes, no more than there were, and what was short stays so. -/
structure Good {α : Type} (f : Rs → α × Rs) : Prop where
  by_ : ∀ s, By s.1 → By (f s).2.1
  less : ∀ s, (f s).2.1.length ≤ s.1.length
  short : ∀ s, s.2 = true → (f s).2.2 = true
theorem Good.bd {α β : Type} {f : Rs → α × Rs} {g : α → Rs → β × Rs} (hf : Good f) (hg : ∀ a, Good (g a)) : Good (bd f g) :=
  ⟨fun s h => (hg _).by_ _ (hf.by_ s h), fun s => Nat.le_trans ((hg _).less _) (hf.less s), fun s h => (hg _).short _ (hf.short s h)⟩
theorem Good.pure {α : Type} (a : α) : Good (fun s => (a, s)) := ⟨fun _ h => h, fun _ => Nat.le_refl _, fun _ h => h⟩
theorem Good.rep {α : Type} {f : Rs → α × Rs} (hf : Good f) (n : Nat) : Good (rep f n) := by
  induction n with
  | zero => exact Good.pure _
  | succ n ih => exact ⟨fun s h => ih.by_ _ (hf.by_ s h), fun s => Nat.le_trans (ih.less _) (hf.less s), fun s h => ih.short _ (hf.short s h)⟩
theorem good_tk (n : Nat) : Good (tk n) := by
  refine ⟨fun s h => ?_, fun s => ?_, fun s h => ?_⟩ <;> unfold tk <;> split
  · intro x hx; cases hx
  · exact h.drop n
  · simp
  · simp
  · rfl
  · exact h
theorem good_one : Good rOne := (good_tk 1).bd fun _ => Good.pure _
theorem good_text : Good rText := good_one.bd fun _ => (good_tk _).bd fun _ => Good.pure _
theorem tk_by {s : Rs} (h : By s.1) (n : Nat) : By (tk n s).1 := by
  unfold tk
  split
  · intro x hx
    rw [List.mem_replicate] at hx
    rw [hx.2]
    omega
  · exact h.take n
theorem rOne_le {s : Rs} (h : By s.1) : 0 ≤ (rOne s).1 ∧ (rOne s).1 ≤ 255 := (tk_by h 1).getD 0
/-! ### The specification's reader: a place and a flag -/
abbrev Ss := Nat × Bool
def sOne (xs : List Int) (s : Ss) : Int × Ss := if s.2 = true ∨ xs.length ≤ s.1 then (0, (s.1, true)) else (xs.getD s.1 0, (s.1 + 1, false))
def sLn (xs : List Int) (n : Nat) (s : Ss) : ByteArray × Ss := if s.2 = true ∨ xs.length < s.1 + n then (ByteArray.empty, (s.1, true)) else (strOfNums ((xs.drop s.1).take n), (s.1 + n, false))
def sLine (xs : List Int) : Ss → ByteArray × Ss := bd (sOne xs) fun n => sLn xs n.toNat
/-- A reading n times, as long as nothing is bad. -/
def repS {α : Type} (f : Ss → α × Ss) : Nat → Ss → List α × Ss
  | 0, s => ([], s)
  | n + 1, s => if s.2 = true then ([], s) else ((f s).1 :: (repS f n (f s).2).1, (repS f n (f s).2).2)
theorem repS_bad {α : Type} {f : Ss → α × Ss} {s : Ss} (h : s.2 = true) (n : Nat) : repS f n s = ([], s) := by
  cases n with
  | zero => rfl
  | succ n => rw [repS, if_pos h]
/-! ### Both come to one end -/
/-- The two readers stand at one place, or both are short. -/
def Both (xs : List Int) (r : Rs) (s : Ss) : Prop := r.2 = s.2 ∧ (s.2 = false → r.1 = xs.drop s.1 ∧ s.1 ≤ xs.length)
/-- Two readings that do the same, as long as nothing is short. -/
structure Like {α : Type} (xs : List Int) (f : Rs → α × Rs) (g : Ss → α × Ss) : Prop where
  both : ∀ r s, Both xs r s → Both xs (f r).2 (g s).2
  same : ∀ r s, Both xs r s → (g s).2.2 = false → (f r).1 = (g s).1
  bad : ∀ s, s.2 = true → (g s).2.2 = true
theorem Like.ok {α : Type} {xs : List Int} {f : Rs → α × Rs} {g : Ss → α × Ss} (h : Like xs f g) {s : Ss} (hb : (g s).2.2 = false) : s.2 = false := by
  cases h0 : s.2 with
  | false => rfl
  | true => rw [h.bad s h0] at hb; cases hb
theorem both_bad {xs : List Int} {r : Rs} {s : Ss} (h1 : r.2 = true) (h2 : s.2 = true) : Both xs r s := ⟨h1.trans h2.symm, fun h => by rw [h2] at h; cases h⟩
theorem Like.bd {α β : Type} {xs : List Int} {f : Rs → α × Rs} {g : Ss → α × Ss} {f' : α → Rs → β × Rs} {g' : α → Ss → β × Ss} (h : Like xs f g) (h' : ∀ a, Like xs (f' a) (g' a)) (hf : ∀ a, Good (f' a)) : Like xs (bd f f') (bd g g') := by
  refine ⟨fun r s hb => ?_, fun r s hb hg => ?_, fun s hs => (h' _).bad _ (h.bad s hs)⟩
  · by_cases hg : (g s).2.2 = true
    · exact both_bad ((hf _).short _ ((h.both r s hb).1.trans hg)) ((h' _).bad _ hg)
    · have hg' : (g s).2.2 = false := by simpa using hg
      show Both xs (f' (f r).1 (f r).2).2 (g' (g s).1 (g s).2).2
      rw [h.same r s hb hg']
      exact (h' _).both _ _ (h.both r s hb)
  · have hg' : (g s).2.2 = false := (h' _).ok hg
    show (f' (f r).1 (f r).2).1 = (g' (g s).1 (g s).2).1
    rw [h.same r s hb hg']
    exact (h' _).same _ _ (h.both r s hb) hg
theorem Like.pure {α : Type} {xs : List Int} (a : α) : Like xs (fun r => (a, r)) (fun s => (a, s)) := ⟨fun _ _ h => h, fun _ _ _ _ => rfl, fun _ h => h⟩
theorem Like.rep {α : Type} {xs : List Int} {f : Rs → α × Rs} {g : Ss → α × Ss} (h : Like xs f g) (hf : Good f) (n : Nat) : Like xs (rep f n) (repS g n) := by
  induction n with
  | zero => exact Like.pure _
  | succ n ih =>
    refine ⟨fun r s hb => ?_, fun r s hb hg => ?_, fun s hs => ?_⟩
    · by_cases hs : s.2 = true
      · rw [repS_bad hs]
        exact both_bad ((hf.rep (n + 1)).short _ (hb.1.trans hs)) hs
      · rw [repS, if_neg hs]
        exact ih.both _ _ (h.both r s hb)
    · by_cases hs : s.2 = true
      · rw [repS_bad hs] at hg
        simp only at hg
        rw [hs] at hg
        cases hg
      · rw [repS, if_neg hs] at hg ⊢
        rw [Go.Proofs.YtcflepnckjappaaGreat.rep]
        simp only at hg ⊢
        rw [h.same r s hb (ih.ok hg), ih.same _ _ (h.both r s hb) hg]
    · rw [repS_bad hs]
      exact hs
end Go.Proofs.YtcflepnckjappaaGreat
