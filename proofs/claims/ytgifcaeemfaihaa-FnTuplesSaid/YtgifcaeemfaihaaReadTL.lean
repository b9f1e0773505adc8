/-
  The parts that a key is of: a plain answer; slices of parts that a call owns.
-/
import Derived.Test.YtgifcaeemfaihaaPartAt
set_option maxRecDepth 100000
namespace Go.Proofs.Ytgifcaeemfaihaa
open Go.RowKit

theorem rd_place : ∀ (n : Nat) (l : List Int), l.length ≤ n → ∀ (o : List Int) (p : Nat) (x : List Int × Nat), rd l o p = some x → p + 2 ≤ x.2 ∧ x.2 ≤ p + l.length
  | 0, l, hl, o, p, x, h => by
    obtain rfl : l = [] := List.eq_nil_of_length_eq_zero (by omega)
    simp [rd] at h
  | n + 1, l, hl, o, p, x, h => by
    match l, hl, h with
    | [], _, h => simp [rd] at h
    | [_], _, h => simp [rd] at h
    | c :: d :: r, hl, h =>
      rw [rd] at h
      split at h
      · split at h
        · cases h; simp
        · split at h
          · have := rd_place n r (by simp at hl; omega) _ _ _ h
            simp; omega
          · cases h
      · have := rd_place n (d :: r) (by simp at hl ⊢; omega) _ _ _ h
        simp at this ⊢; omega
theorem short_of {r : Option (List Int × Nat)} {x : List Int × Nat} (h : short r = some x) : r = some x := by
  unfold short at h
  exact (Option.filter_eq_some_iff.1 h).1
theorem rdP_place {xs : List Int} {k : Nat} {d : PartD} {q : Nat} (hk : k < xs.length) (h : rdP xs k = some (d, q)) : k < q ∧ q ≤ xs.length := by
  unfold rdP at h
  split at h
  · split at h
    · cases h; omega
    · cases h
  · split at h
    · split at h
      · cases h; omega
      · cases h
    · split at h
      · cases hs : short (rd (xs.drop (k + 1)) [] (k + 1)) with
        | none => rw [hs] at h; cases h
        | some x =>
          rw [hs] at h
          obtain ⟨o, p⟩ := x
          have e : q = p := by
            have := Option.some.inj h
            exact (congrArg Prod.snd this).symm
          subst e
          have := rd_place _ _ (Nat.le_refl _) _ _ _ (short_of hs)
          simp only [List.length_drop] at this
          omega
      · cases h
/-- The parts from a place on, behind those that are read already, and the code. -/
def rdT : Nat → List Int → Nat → List PartD → List PartD × Int
  | 0, _, _, acc => (acc, 0)
  | f + 1, xs, k, acc => if k < xs.length then (match rdP xs k with
      | none => ([], 3)
      | some (d, q) => if acc.length = 6 then ([], 6) else rdT f xs q (acc ++ [d])) else (acc, 0)
theorem rdT_end {f : Nat} {xs : List Int} {k : Nat} {acc : List PartD} (h : xs.length ≤ k) : rdT f xs k acc = (acc, 0) := by
  cases f with
  | zero => rfl
  | succ f => rw [rdT, if_neg (by omega)]
theorem rdT_none {f : Nat} {xs : List Int} {k : Nat} {acc : List PartD} (h : k < xs.length) (hf : xs.length - k ≤ f) (hr : rdP xs k = none) : rdT f xs k acc = ([], 3) := by
  cases f with
  | zero => omega
  | succ f => rw [rdT, if_pos h, hr]
theorem rdT_full {f : Nat} {xs : List Int} {k : Nat} {acc : List PartD} {d : PartD} {q : Nat} (h : k < xs.length) (hf : xs.length - k ≤ f) (hr : rdP xs k = some (d, q)) (h6 : acc.length = 6) : rdT f xs k acc = ([], 6) := by
  cases f with
  | zero => omega
  | succ f => rw [rdT, if_pos h, hr]; simp only []; rw [if_pos h6]
theorem rdT_step {f : Nat} {xs : List Int} {k : Nat} {acc : List PartD} {d : PartD} {q : Nat} (h : k < xs.length) (hf : xs.length - k ≤ f) (hr : rdP xs k = some (d, q)) (h6 : ¬ acc.length = 6) :
    ∃ g, xs.length - q ≤ g ∧ rdT f xs k acc = rdT g xs q (acc ++ [d]) := by
  have hp := rdP_place h hr
  cases f with
  | zero => omega
  | succ f => exact ⟨f, by omega, by rw [rdT, if_pos h, hr]; simp only []; rw [if_neg h6]⟩
/-- What ReadTuple answers. -/
def rtA (xs : List Int) : List PartD × Int := if 65536 < xs.length then ([], 2) else rdT xs.length xs 0 []

/-- The four cells of a part. -/
def cells4 (d : PartD) : List Value := [.int .i64 d.k, .int .i64 d.n, .float .f64 d.f, .string d.t]
/-- A slice of parts that the call owns from block B on. -/
abbrev POwns (w : World) (B : Nat) (v : Value) (ps : List PartD) : Prop := w.ownsRow B 47 4 v ps.length (ps.flatMap cells4)
theorem pcells_at : ∀ (ps : List PartD) (i r : Nat) (hi : i < ps.length), r < 4 → (ps.flatMap cells4)[i * 4 + r]? = (cells4 ps[i])[r]?
  | [], i, r, hi, hr => absurd hi (Nat.not_lt_zero _)
  | d :: s, 0, r, hi, hr => by
    rw [List.flatMap_cons, List.getElem?_append_left (by simp [cells4]; omega)]
    simp
  | d :: s, i + 1, r, hi, hr => by
    rw [List.flatMap_cons, List.getElem?_append_right (by simp [cells4]; omega)]
    have e : (i + 1) * 4 + r - (cells4 d).length = i * 4 + r := by simp [cells4]; omega
    rw [e, pcells_at s i r (by simpa using hi) hr]
    rfl
theorem pcells_length (ps : List PartD) : (ps.flatMap cells4).length = ps.length * 4 := by
  induction ps with
  | nil => rfl
  | cons d s ih => rw [List.flatMap_cons, List.length_append, ih]; simp [cells4]; omega
/-- A slice of parts that the call owns: nil, or a block of its own. -/
theorem powns {w : World} {B : Nat} {v : Value} {ps : List PartD} (h : POwns w B v ps) :
    (v = .slice none 0 0 ∧ ps = []) ∨ ∃ g cap, v = .slice (some ⟨g, 0, none⟩) ps.length cap ∧ B ≤ g ∧ Blk w g (ps.length * 4) (fun j => (ps.flatMap cells4).getD j (.int .i64 0)) ∧ PRow w (some ⟨g, 0, none⟩) ps.length ps := by
  have hh := h
  obtain ⟨_, h⟩ := h
  rcases h with ⟨rfl, hn⟩ | ⟨g, cap, cur, rfl, hb, hp, hc, hm, hs, ht⟩
  · exact .inl ⟨rfl, List.eq_nil_of_length_eq_zero hn⟩
  · right
    have hlt : g < w.heap.size := (Array.getElem?_eq_some_iff.1 hp).1
    have hcell : ∀ j, j < ps.length * 4 → w.cell? ⟨g, j, none⟩ = some ((ps.flatMap cells4).getD j (.int .i64 0)) := fun j hj => by
      rw [hh.cellAt j hj]
      have hj2 : j < (ps.flatMap cells4).length := by rw [pcells_length]; exact hj
      obtain ⟨u, hu⟩ : ∃ u, (ps.flatMap cells4)[j]? = some u := ⟨_, List.getElem?_eq_getElem hj2⟩
      rw [List.getD, hu]; rfl
    refine ⟨g, cap, rfl, hb, ⟨hcell, fun j => hh.frozenAt j, hlt⟩, rfl, fun i hi => ⟨g, 0, rfl, ?_⟩⟩
    have key : ∀ r, r < 4 → w.cell? ⟨g, 0 + i * 4 + r, none⟩ = (cells4 ps[i])[r]? := fun r hr => by
      rw [Nat.zero_add, ← pcells_at ps i r hi hr]
      exact hh.cellAt (i * 4 + r) (by omega)
    exact ⟨key 0 (by omega), key 1 (by omega), key 2 (by omega), key 3 (by omega)⟩
theorem powns_val {w : World} {B : Nat} {v : Value} {ps : List PartD} (h : POwns w B v ps) : ∃ a c, v = .slice a ps.length c := by
  rcases powns h with ⟨h1, h2⟩ | ⟨g, cap, h1, _⟩
  · subst h2; exact ⟨_, _, h1⟩
  · exact ⟨_, _, h1⟩
/-- A slice of parts that the call owns, as it reads. -/
theorem powns_row {w : World} {B : Nat} {v : Value} {ps : List PartD} (h : POwns w B v ps) : ∃ a c, v = .slice a ps.length c ∧ PRow w a ps.length ps ∧ ((a = none ∧ ps = []) ∨ ∃ g F, a = some ⟨g, 0, none⟩ ∧ B ≤ g ∧ Blk w g (ps.length * 4) F) := by
  rcases powns h with ⟨h1, h2⟩ | ⟨g, cap, h1, h2, h3, h4⟩
  · subst h2
    exact ⟨none, 0, h1, ⟨rfl, fun i hi => absurd hi (Nat.not_lt_zero _)⟩, .inl ⟨rfl, rfl⟩⟩
  · exact ⟨_, cap, h1, h4, .inr ⟨g, _, rfl, h2, h3⟩⟩
theorem powns_below {w w' : World} {B : Nat} {v : Value} {ps : List PartD} (h : POwns w B v ps) (hb : Below w.heap.size w w') : POwns w' B v ps :=
  World.ownsRow.kept (row := none) h ⟨hb.os, hb.tape, hb.output, hb.size, fun i hi _ => hb.block i hi⟩ (by cases hv : v.ownBlock <;> simp)
theorem powns_app {w : World} {B : Nat} {v : Value} {ps : List PartD} {d : PartD} (h : w.ownsRow B 47 4 v (ps.length + 1) (ps.flatMap cells4 ++ cells4 d)) : POwns w B v (ps ++ [d]) := by
  unfold POwns
  rw [List.length_append, List.flatMap_append]
  simpa using h
theorem below_appP {B : Nat} {w wr w1 : World} {n : Nat} {v : Value} {o : Obj} {c : Array Value} {t : TypeId} {xs : List Value} (hb : Below B w wr) (hB : B ≤ wr.heap.size) (hown : wr.ownsRow B 47 4 v n xs) (hg : ((wr.alloc o).alloc (.cells c t)).grownBy w1 v.ownBlock) : Below B w w1 :=
  ((hb.alloc hB _).alloc (by simp; omega) _).grown hg (by simp; omega) (fun k hk => (hown.lt k hk).1)
theorem part_cells (d : PartD) : ∀ u ∈ cells4 d, u.oneCell' = true := by
  intro u hu
  simp only [cells4, List.mem_cons, List.not_mem_nil, or_false] at hu
  rcases hu with rfl | rfl | rfl | rfl <;> rfl
end Go.Proofs.Ytgifcaeemfaihaa
