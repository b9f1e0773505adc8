/-
  The version that a key has at a time, as plain data.
-/
import Derived.Test.YtdnneomdokcpeaaVaG
namespace Go.Proofs.Ytdnneomdokcpeaa
open Go.RowKit

def lastAt (L : List VerD) (t : Int) : Option VerD := (L.filter fun d => decide (d.t ≤ t)).getLast?
/-- The version that a key has at a time. -/
def verAt (ds : List VerD) (k : ByteArray) (t : Int) : Option VerD := match lastAt (grp ds k) t with
  | some d => if d.g = true then none else some d
  | none => none
/-- How many are not later. -/
def cnt (L : List VerD) (t : Int) : Nat := (L.takeWhile fun d => decide (d.t ≤ t)).length
theorem ltV_trans {a b c : VerD} (h1 : ltV a b = true) (h2 : ltV b c = true) : ltV a c = true := by
  unfold ltV at *
  simp only [Bool.or_eq_true, Bool.and_eq_true, decide_eq_true_eq] at *
  rcases h1 with h1 | ⟨h1, h1'⟩
  · rcases h2 with h2 | ⟨h2, _⟩
    · exact .inl (ltK_trans h1 h2)
    · exact .inl (h2 ▸ h1)
  · rcases h2 with h2 | ⟨h2, h2'⟩
    · exact .inl (h1 ▸ h2)
    · exact .inr ⟨h1.trans h2, by omega⟩
theorem okVs_next {ds : List VerD} (h : okVs ds = true) {i : Nat} (hi : i + 1 < ds.length) : ltV (ds[i]'(by omega)) ds[i + 1] = true := by
  have := okVs_at h hi
  rw [okAtV_succ hi, Bool.and_eq_true] at this
  exact this.2
theorem okVs_rise {ds : List VerD} (h : okVs ds = true) {i : Nat} : ∀ (m : Nat) (hj : i + m + 1 < ds.length), ltV (ds[i]'(by omega)) ds[i + m + 1] = true
  | 0, hj => okVs_next h hj
  | m + 1, hj => ltV_trans (okVs_rise h m (by omega)) (okVs_next h (i := i + m + 1) hj)
theorem okVs_pair {ds : List VerD} (h : okVs ds = true) : ds.Pairwise fun a b => ltV a b = true := by
  rw [List.pairwise_iff_getElem]
  intro i j hi hj hij
  obtain ⟨m, rfl⟩ : ∃ m, j = i + m + 1 := ⟨j - i - 1, by omega⟩
  exact okVs_rise h m hj
theorem grp_rise {ds : List VerD} (h : okVs ds = true) (k : ByteArray) : (grp ds k).Pairwise fun a b => a.t < b.t := by
  have h1 : (grp ds k).Pairwise fun a b => ltV a b = true := (okVs_pair h).filter _
  refine h1.imp_of_mem ?_
  intro a b ha hb hab
  have ea : a.k = k := by simpa [grp] using (List.mem_filter.1 ha).2
  have eb : b.k = k := by simpa [grp] using (List.mem_filter.1 hb).2
  unfold ltV at hab
  rw [ea, eb, ltK_irr] at hab
  simpa using hab
theorem while_filter {L : List VerD} (h : L.Pairwise fun a b => a.t < b.t) (t : Int) : (L.takeWhile fun d => decide (d.t ≤ t)) = L.filter fun d => decide (d.t ≤ t) := by
  induction L with
  | nil => rfl
  | cons a L ih =>
    have h' := List.pairwise_cons.1 h
    by_cases e : a.t ≤ t
    · rw [List.takeWhile_cons_of_pos (by simpa using e), List.filter_cons_of_pos (by simpa using e), ih h'.2]
    · rw [List.takeWhile_cons_of_neg (by simpa using e), List.filter_cons_of_neg (by simpa using e)]
      symm
      rw [List.filter_eq_nil_iff]
      intro b hb
      have := h'.1 b hb
      simp
      omega
theorem cnt_le (L : List VerD) (t : Int) : cnt L t ≤ L.length := (List.takeWhile_prefix _).length_le
theorem take_cnt (L : List VerD) (t : Int) : (L.takeWhile fun d => decide (d.t ≤ t)) = L.take (cnt L t) := List.prefix_iff_eq_take.1 (List.takeWhile_prefix _)
theorem last_cnt {L : List VerD} (h : L.Pairwise fun a b => a.t < b.t) (t : Int) : lastAt L t = if cnt L t = 0 then none else L[cnt L t - 1]? := by
  unfold lastAt
  rw [← while_filter h, take_cnt]
  have hl := cnt_le L t
  generalize cnt L t = n at *
  split
  · rename_i e; subst e; rfl
  · rw [List.getLast?_eq_getElem?, List.length_take, Nat.min_eq_left hl, List.getElem?_take, if_pos (by omega)]
theorem cnt_step {L : List VerD} {t : Int} {n : Nat} (hn : n < L.length) (hp : ∀ i (h : i < L.length), i < n → L[i].t ≤ t) (ht : ¬ L[n].t ≤ t) : cnt L t = n := by
  unfold cnt
  have : L = L.take n ++ L.drop n := (List.take_append_drop n L).symm
  rw [this, List.takeWhile_append_of_pos (fun a ha => by
    obtain ⟨i, hi, rfl⟩ := List.getElem_of_mem ha
    rw [List.length_take] at hi
    rw [List.getElem_take]
    exact decide_eq_true (hp i (by omega) (by omega))), List.drop_eq_getElem_cons hn, List.takeWhile_cons_of_neg (by simpa using ht), List.append_nil, List.length_take]
  omega
theorem cnt_all {L : List VerD} {t : Int} (hp : ∀ i (h : i < L.length), L[i].t ≤ t) : cnt L t = L.length := by
  unfold cnt
  have := List.takeWhile_append_of_pos (p := fun d : VerD => decide (d.t ≤ t)) (l₁ := L) (l₂ := []) (fun a ha => by
    obtain ⟨i, hi, rfl⟩ := List.getElem_of_mem ha
    exact decide_eq_true (hp i hi))
  rw [List.append_nil] at this
  rw [this]
  simp
/-- What VersionAt answers. -/
def vaC (ds : List VerD) (k : ByteArray) (t : Int) : Int := if ds.length ≤ 4096 ∧ k.size ≤ 65536 then (if okVs ds = true then (match verAt ds k t with | some _ => 0 | none => 5) else 1) else 2
def vaV (ds : List VerD) (k : ByteArray) (t : Int) : VerD := if ds.length ≤ 4096 ∧ k.size ≤ 65536 ∧ okVs ds = true then (verAt ds k t).getD noV else noV
def VaRes (ds : List VerD) (k : ByteArray) (t : Int) (w : World) (e : Ending) (w' : World) : Prop := e = .returned (.tuple #[vv (vaV ds k t), .int .i64 (vaC ds k t)]) ∧ Below w.heap.size w w'
theorem va_long {ds : List VerD} {k : ByteArray} {t : Int} {w w' : World} (h : ¬ (ds.length ≤ 4096 ∧ k.size ≤ 65536)) (hb : Below w.heap.size w w') : VaRes ds k t w (.returned (.tuple #[vv noV, .int .i64 2])) w' := by
  refine ⟨?_, hb⟩
  unfold vaV vaC
  rw [if_neg h, if_neg (fun x => h ⟨x.1, x.2.1⟩)]
theorem va_bad {ds : List VerD} {k : ByteArray} {t : Int} {w w' : World} (h : ds.length ≤ 4096 ∧ k.size ≤ 65536) (h2 : okVs ds = false) (hb : Below w.heap.size w w') : VaRes ds k t w (.returned (.tuple #[vv noV, .int .i64 1])) w' := by
  refine ⟨?_, hb⟩
  unfold vaV vaC
  rw [if_neg (show ¬ (ds.length ≤ 4096 ∧ k.size ≤ 65536 ∧ okVs ds = true) from fun x => by rw [h2] at x; exact absurd x.2.2 (by decide)), if_pos h, if_neg (show ¬ okVs ds = true by rw [h2]; decide)]
theorem va_none {ds : List VerD} {k : ByteArray} {t : Int} {w w' : World} (h : ds.length ≤ 4096 ∧ k.size ≤ 65536) (h2 : okVs ds = true) (h3 : verAt ds k t = none) (hb : Below w.heap.size w w') : VaRes ds k t w (.returned (.tuple #[vv noV, .int .i64 5])) w' := by
  refine ⟨?_, hb⟩
  unfold vaV vaC
  rw [if_pos h, if_pos h2, if_pos ⟨h.1, h.2, h2⟩, h3]
  rfl
theorem va_some {ds : List VerD} {k : ByteArray} {t : Int} {w w' : World} {d : VerD} (h : ds.length ≤ 4096 ∧ k.size ≤ 65536) (h2 : okVs ds = true) (h3 : verAt ds k t = some d) (hb : Below w.heap.size w w') : VaRes ds k t w (.returned (.tuple #[vv d, .int .i64 0])) w' := by
  refine ⟨?_, hb⟩
  unfold vaV vaC
  rw [if_pos h, if_pos h2, if_pos ⟨h.1, h.2, h2⟩, h3]
  rfl
/-- What a view gives. -/
def VwRes (ds : List VerD) (k : ByteArray) (t : Int) (w : World) (e : Ending) (w' : World) : Prop :=
  (∃ x, e = .returned (.tuple #[vv x, .bool false]) ∧ verAt ds k t = none ∧ Below w.heap.size w w') ∨ ∃ x, e = .returned (.tuple #[vv x, .bool true]) ∧ verAt ds k t = some x ∧ Below w.heap.size w w'
end Go.Proofs.Ytdnneomdokcpeaa
