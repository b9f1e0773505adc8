/-
  An append to a row of the call's own: where the new row lies.
-/
import Derived.Test.YtdiakahaghggiaaRowB
namespace Go.Proofs.Ytdiakahaghggiaa
open Go.RowKit

theorem app_at {P : Program} {w : World} {B : Nat} (t ty e : TypeId) {i : TypeInfo} {z : Value} {size bytes : Nat} (ht : P.underlying t = some (.slice e)) (hi : P.info? e = some i) (hz : i.zero = some z)
    (hsize : i.size = size) (hby : i.bytes = bytes) (hzs : z.cells.size = size) (hsz : 0 < size)
    {v : Value} {n : Nat} {xs : List Value} (hown : w.ownsRow B e size v n xs)
    (a : Addr) (m c : Nat) (news : List Value) (hl : news.length = m * size) (hnews : ∀ j u, news[j]? = some u → w.cell? (a.add j) = some u) (h1 : ∀ u ∈ news, u.oneCell' = true)
    (h63 : n + m ≤ maxLen) (hbytes : (n + m) * bytes ≤ 140737488355328) (hbase : B ≤ w.heap.size) (hm : v = .slice none 0 0 → 0 < m) :
    ∃ v' w', (Builtin.append_ #[t, t] ty #[v, .slice (some a) m c]).run P w = .ok v' w' ∧ w'.ownsRow B e size v' (n + m) (xs ++ news) ∧ w.grownBy w' v.ownBlock ∧ v' ≠ .slice none 0 0 ∧ (v'.ownBlock = v.ownBlock ∨ v'.ownBlock = some w.heap.size) := by
  obtain ⟨v', w', hr, ho', hg, hnil⟩ := run_append_own (P := P) (w := w) B t ty e i z size bytes ht hi hz hsize hby hzs hsz v n xs hown a m c news hl hnews h1 h63 hbytes hbase
  refine ⟨v', w', hr, ho', hg, fun e => by have h1 := hnil.1 e; have := hm h1.1; omega, ?_⟩
  subst hsize
  subst hby
  unfold maxLen at h63
  have hbm : m * i.bytes ≤ (n + m) * i.bytes := Nat.mul_le_mul_right _ (by omega)
  rcases hown.2 with ⟨rfl, h0⟩ | ⟨g', cap', cur, rfl, hbg, hgg, hnc, hcm, hcs, htake⟩
  · have h := run_append_nil (P := P) (w := w) t ty e i z ht hi hz a m c news hl hnews (hm rfl) (by omega) (by omega)
    rw [hr] at h
    injection h with h _
    subst h
    exact .inr rfl
  · by_cases hroom : n + m ≤ cap'
    · have hk : n * i.size + m * i.size ≤ cap' * i.size := by rw [← Nat.add_mul]; exact Nat.mul_le_mul_right _ hroom
      have h := run_append_room (P := P) (w := w) t ty e i ht hi g' n cap' cur hgg a m c news hl hnews h1 hroom (by rw [hcs, hl]; exact hk)
      rw [hr] at h
      injection h with h _
      subst h
      exact .inl rfl
    · have h := run_append_grow (P := P) (w := w) t ty e i z ht hi hz ⟨g', 0, none⟩ n cap' xs hown.1 (fun j u hu => by
          have hj : j < n * i.size := by rw [← hown.1]; exact (List.getElem?_eq_some_iff.1 hu).1
          have e2 : (⟨g', 0, none⟩ : Addr).add j = ⟨g', j, none⟩ := by unfold Addr.add; split <;> simp_all
          rw [e2, hown.cellAt j hj, hu]) a m c news hl hnews (by omega) (by omega) (growslice_fits (by omega) hbytes)
      rw [hr] at h
      injection h with h _
      subst h
      exact .inr rfl
theorem ownsRow_down {w : World} {B C e s n : Nat} {v : Value} {vs : List Value} (h : w.ownsRow B e s v n vs) (hC : C ≤ B) : w.ownsRow C e s v n vs := by
  refine ⟨h.1, ?_⟩
  rcases h.2 with h | ⟨g, cap, cur, e, hb, r⟩
  · exact .inl h
  · exact .inr ⟨g, cap, cur, e, Nat.le_trans hC hb, r⟩
end Go.Proofs.Ytdiakahaghggiaa
