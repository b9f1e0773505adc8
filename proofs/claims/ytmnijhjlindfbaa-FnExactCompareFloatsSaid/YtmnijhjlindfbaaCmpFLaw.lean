/-
  The walk of FnExactCompareFloats.
-/
import Derived.Test.YtmnijhjlindfbaaCmpF
namespace Go.Proofs.Ytmnijhjlindfbaa
open Go.RowKit
theorem cmp_wf {f : Nat} (h : (Lit.float .f64 f).wf = true) : f < 18446744073709551616 := by
  simpa [Lit.wf, FloatKind.format] using h
theorem lawCmpF_any (f g : Nat) (w : World) (h1 : (Lit.float .f64 f).wf = true) (h2 : (Lit.float .f64 g).wf = true) :
    Calls Try.prog 6 #[.float .f64 f, .float .f64 g] w fun e w' => e = .returned (.bool true) ∧ Below w.heap.size w w' := by
  have hf := cmp_wf h1
  have hg := cmp_wf h2
  go_enter Try.func6, Try.ntmps6
  go_wp2_with fail
  refine (specCmpF_any f g _ hf hg).mono ?_
  rintro e w1 ⟨rfl, rfl⟩
  go_wp2_with fail
  refine (implCmpF_any f g _ hf hg).mono ?_
  rintro e w1 ⟨rfl, rfl⟩
  go_wp2_with fail
  go_ret
  exact ⟨rfl, Below.refl _ _⟩
end Go.Proofs.Ytmnijhjlindfbaa
