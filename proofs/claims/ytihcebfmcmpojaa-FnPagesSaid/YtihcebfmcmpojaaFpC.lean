/-
  The bytes of a page are bytes; what the calls of FnPages answer.
-/
import Derived.Test.YtihcebfmcmpojaaFpA
import Derived.Test.YtihcebfmcmpojaaFpB
namespace Go.Proofs.Ytihcebfmcmpojaa
open Go.RowKit

theorem By.app {xs ys : List Int} (h1 : By xs) (h2 : By ys) : By (xs ++ ys) := fun x hx => by
  rcases List.mem_append.1 hx with hx | hx
  · exact h1 x hx
  · exact h2 x hx
theorem By.one {x : Int} (h1 : 0 ≤ x) (h2 : x ≤ 255) : By [x] := fun y hy => by
  obtain rfl : y = x := by simpa using hy
  exact ⟨h1, h2⟩
theorem by_bytesL (t : ByteArray) : By (bytesL t) := fun x hx => by
  unfold bytesL at hx
  obtain ⟨b, _, rfl⟩ := List.mem_map.1 hx
  have := b.toNat_lt
  omega
theorem by_line {t : ByteArray} (h : t.size ≤ 255) : By (lineL t) := (By.one (x := (t.size : Int)) (by omega) (by omega)).app (by_bytesL t)
theorem by_two {n : Int} (h1 : 0 ≤ n) (h2 : n ≤ 65535) : By (twoL n) := (By.one (x := n / 256) (by omega) (by omega)).app (By.one (x := n % 256) (by omega) (by omega))
theorem by_page {lo hi : ByteArray} {r : Int} {es : List EntD} {ds : List DelD} (h : SmallP lo hi r es ds) : By (pageL lo hi r es ds) := by
  obtain ⟨h1, h2, h3, h4, h5, h6, h7, h8⟩ := h
  refine (((((((by_line (by omega)).app (by_line (by omega))).app (by_two h3 (by omega))).app (By.one (by omega) (by omega)))).app ?_).app (By.one (by omega) (by omega))).app ?_
  · intro x hx
    obtain ⟨e, he, hx⟩ := List.mem_flatMap.1 hx
    obtain ⟨i, hi', rfl⟩ := List.mem_iff_getElem.1 he
    have := h7 i hi'
    exact ((by_line (by omega)).app (by_line (by omega))) x hx
  · intro x hx
    obtain ⟨e, he, hx⟩ := List.mem_flatMap.1 hx
    obtain ⟨i, hi', rfl⟩ := List.mem_iff_getElem.1 he
    have := h8 i hi'
    exact ((By.one (by omega) (by omega)).app (((by_line (by omega)).app (by_line (by omega))).app (by_two (by omega) (by omega)))) x hx
theorem row_own {w : World} {B : Nat} {v : Value} {xs : List Int} (h : Owns w B v xs) : ∃ a n c, v = .slice a n c ∧ Row w a n xs ∧ n ≤ c ∧ ∀ x, a = some x → x.block < w.heap.size := by
  rcases h.2 with ⟨e, hn⟩ | ⟨g, cap, cur, e, hb, hh, hc, h1⟩
  · obtain rfl := List.eq_nil_of_length_eq_zero hn
    exact ⟨none, 0, 0, e, ⟨rfl, fun i hi => absurd hi (Nat.not_lt_zero _)⟩, Nat.le_refl _, fun x hx => by cases hx⟩
  · subst e
    refine ⟨some ⟨g, 0, none⟩, xs.length, cap, rfl, ?_, hc, fun x hx => ?_⟩
    · obtain ⟨a, c, e, _, _, h3, _⟩ := mine_of_owns h
      injection e with e1
      subst e1
      exact h3
    · injection hx with hx
      subst hx
      exact heap_ltD hh
end Go.Proofs.Ytihcebfmcmpojaa
