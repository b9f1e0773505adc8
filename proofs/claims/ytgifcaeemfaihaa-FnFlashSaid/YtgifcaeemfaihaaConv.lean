/-
  A row of bytes as a text.
-/
import Derived.Test.YtgifcaeemfaihaaOwn
import Derived.Laws.BytesArg
set_option maxRecDepth 100000
namespace Go.Proofs.Ytgifcaeemfaihaa
open Go.RowKit

/-- A row of bytes as a text. -/
theorem conv_any {w : World} {a : Option Addr} {n c : Nat} {xs : List Int} (h : Row w a n xs) : (convert 22 9 (.slice a n c)).run Try.prog w = .ok (.string (strOfNums xs)) w := by
  by_cases hn : 0 < n
  · obtain ⟨b, off, rfl, _⟩ := h.2 0 hn
    exact run_convert_bytes_arg _ 22 5 Try.underlying22 Try.underlying5 b off n c xs h.1 (fun i hi => by
      obtain ⟨b', off', e, hc⟩ := h.2 i hi
      cases e
      exact hc) 9 Try.underlying9
  · obtain rfl : n = 0 := by omega
    obtain rfl : xs = [] := List.eq_nil_of_length_eq_zero h.1
    cases a with
    | none => rw [run_convert_bytes_string (P := Try.prog) w 22 9 5 none 0 c Try.underlying22 Try.underlying5 Try.underlying9]; rfl
    | some x =>
      obtain ⟨b, off, spot⟩ := x
      rw [run_convert_bytes_string (P := Try.prog) w 22 9 5 (some ⟨b, off, spot⟩) 0 c Try.underlying22 Try.underlying5 Try.underlying9]; rfl
end Go.Proofs.Ytgifcaeemfaihaa
