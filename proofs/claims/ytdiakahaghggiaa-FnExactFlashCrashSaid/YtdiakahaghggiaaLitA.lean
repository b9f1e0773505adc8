/-
  Bytes that may be nil, appended to a new empty row.
-/
import Derived.Test.YtdiakahaghggiaaScB
import Derived.Laws.AppendOwnNone
namespace Go.Proofs.Ytdiakahaghggiaa
open Go.RowKit

/-- A slice that is nil, or lies somewhere. -/
def Adr (ah : Option Addr) (n c : Nat) : Prop := (ah = none ∧ n = 0 ∧ c = 0) ∨ ∃ b off, ah = some ⟨b, off, none⟩
theorem lit_app {w : World} {C q n c : Nat} {ah : Option Addr} {xs : List Int} (ty : TypeId) (hO : Owns w C (.slice (some ⟨q, 0, none⟩) 0 0) []) (hr : Row w ah n xs) (hah : Adr ah n c) (hn : n ≤ 1000000) (hC : C ≤ w.heap.size) :
    ∃ g cap w', (Builtin.append_ #[22, 22] ty #[.slice (some ⟨q, 0, none⟩) 0 0, .slice ah n c]).run Try.prog w = .ok (.slice (some ⟨g, 0, none⟩) n cap) w' ∧ Owns w' C (.slice (some ⟨g, 0, none⟩) n cap) xs ∧ w.grownBy w' (some q) := by
  rcases hah with ⟨rfl, rfl, rfl⟩ | ⟨b, off, rfl⟩
  · obtain rfl : xs = [] := List.eq_nil_of_length_eq_zero hr.1
    obtain ⟨i0, hi0, _, _, _⟩ := info_parts Try.infoU8
    exact ⟨q, 0, w, run_append_owned_none (P := Try.prog) (w := w) C 22 ty 5 i0 1 Try.underlying22 hi0 _ 0 _ hO, hO, ⟨rfl, rfl, rfl, Nat.le_refl _, fun _ _ _ => rfl⟩⟩
  · obtain ⟨g, cap, w', h1, h2, _, h4⟩ := sc_copy2 (c := c) ty hO hr hn hC
    exact ⟨g, cap, w', h1, h2, h4⟩
end Go.Proofs.Ytdiakahaghggiaa
