/-
  How many images stand on a device: plain facts.
-/
import Derived.Test.YtocdbijmpecdgaaScL
import Derived.Test.YtocdbijmpecdgaaReadD
namespace Go.Proofs.Ytocdbijmpecdgaa
open Go.RowKit Go.Maps

theorem scanI_len (b : List Int) : ∀ f p, p ≤ b.length → (scanI b f p).1.length ≤ b.length - p := by
  intro f
  induction f with
  | zero => intro p _; simp [scanI]
  | succ f ih =>
    intro p hp
    cases hn : nextI b p with
    | none => rw [scanI_none hn]; simp
    | some x =>
      obtain ⟨_, _, _, h4⟩ := next_some hn
      have := ih (p + 9 + x.xs.length) (by omega)
      simp only [scanI, hn]
      simp
      omega
theorem scan_len_le (b : List Int) {m : Nat} (h : b.length ≤ m) : (scanB b).1.length ≤ m := by
  have := scanI_len b (b.length + 1) 0 (Nat.zero_le _)
  unfold scanB
  omega
theorem mine_row8 {w : World} {B n cap : Nat} {a : Option Addr} {xs : List Int} (h : Mine w B (.slice a n cap) xs) : Row w a n xs ∧ n = xs.length ∧ n ≤ cap ∧ cap ≤ maxLen := by
  obtain ⟨a', c', e, h1, h2, h3, h4⟩ := h
  injection e with e1 e2 e3
  subst e1 e2 e3
  exact ⟨h3, rfl, h1, h2⟩
theorem scan_few {xs : List Int} {ws : List WD} (h : okD xs.length ws = true) : (readD xs ws).length ≤ 2048 ∧ (scanB (readD xs ws)).1.length ≤ 2048 := by
  obtain ⟨k1, k2, k3, k4⟩ := okD_parts h
  have h1 := (readD_bounds xs ws k1 k2 k4).2
  refine ⟨h1, ?_⟩
  exact scan_len_le _ h1
end Go.Proofs.Ytocdbijmpecdgaa
