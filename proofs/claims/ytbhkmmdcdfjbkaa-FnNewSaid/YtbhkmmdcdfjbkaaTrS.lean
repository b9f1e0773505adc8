/-
  Trees: the walk of spec.l05Whole.
-/
import Derived.Test.YtbhkmmdcdfjbkaaMtE
import Derived.Test.YtbhkmmdcdfjbkaaPageO
namespace Go.Proofs.Ytbhkmmdcdfjbkaa
open Go.RowKit

theorem here_get {hs : List PpH} {gs : List Bool} {idx : List RefD} {k : Nat} (h1 : k < hs.length) (h2 : k < gs.length) : getP (trd hs gs idx).here (k : Int) = if gs[k] then none else some hs[k].X := by
  rw [getP_nat]
  have hl : k < (trd hs gs idx).here.length := by simp [trd, TreD.here]; omega
  rw [List.getElem?_eq_getElem hl]
  simp [trd, TreD.here]
theorem goT_none {ps : List (Option PageD)} {m : Nat} {x : Int} {low : ByteArray} (h : getP ps x = none) : goT ps (m + 1) x low = false := by unfold goT; rw [h]
theorem goT_other {ps : List (Option PageD)} {m : Nat} {x : Int} {low : ByteArray} {p : PageD} (h : getP ps x = some p) (hl : p.lo ≠ low) : goT ps (m + 1) x low = false := by unfold goT; rw [h]; simp only; rw [decide_eq_false hl]; rfl
theorem goT_next {ps : List (Option PageD)} {m : Nat} {x : Int} {low : ByteArray} {p : PageD} (h : getP ps x = some p) (hl : p.lo = low) : goT ps (m + 1) x low = goT ps m (riP p) (hiP p) := by
  conv => lhs; unfold goT
  rw [h]
  simp only
  rw [decide_eq_true hl, Bool.true_and]
end Go.Proofs.Ytbhkmmdcdfjbkaa
