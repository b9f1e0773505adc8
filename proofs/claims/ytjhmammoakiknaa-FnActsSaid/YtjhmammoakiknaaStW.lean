/-
  The device's write: where there is no room.
-/
import Derived.Test.YtjhmammoakiknaaStA
import Derived.Test.YtjhmammoakiknaaStC
import Derived.Test.YtjhmammoakiknaaStL
namespace Go.Proofs.Ytjhmammoakiknaa
open Go.RowKit Go.Maps

set_option maxHeartbeats 2000000 in
theorem write_full (p at_ n c : Nat) (ad : Option Addr) (w : World) (h : ¬ at_ + n ≤ 2048) (ha : at_ ≤ 1000000) :
    Calls Try.prog 50 #[.pointer (some ⟨p, 0, none⟩), .int .i64 (at_ : Int), .slice ad n c] w fun e w' => e = .returned (.int .i64 7) ∧ w' = w := by
  have h0 : ¬ ((at_ : Int) < 0) := by omega
  have wr : IntKind.i64.wrap (2048 - (at_ : Int)) = 2048 - (at_ : Int) := by rw [IntKind.wrap_i64]; omega
  by_cases h1 : 2048 < at_
  · have h2 : (2048 : Int) < (at_ : Int) := by omega
    go_enter Try.func50, Try.ntmps50
    go_wp2_with fail
    go_ret
    exact ⟨rfl, rfl⟩
  · have h2 : ¬ ((2048 : Int) < (at_ : Int)) := by omega
    have h3 : 2048 - (at_ : Int) < (n : Int) := by omega
    go_enter Try.func50, Try.ntmps50
    go_wp2_with fail
    go_ret
    exact ⟨rfl, rfl⟩
end Go.Proofs.Ytjhmammoakiknaa
