/-
  Pages without anything: the walks of hasNothing, l05Empty.
-/
import Derived.Test.YtbhkmmdcdfjbkaaPageA
namespace Go.Proofs.Ytbhkmmdcdfjbkaa
open Go.RowKit

/-- A page without anything. -/
def emptyP (lo hi : ByteArray) (r : Int) (nb nc : Nat) : Bool := lo.toList.isEmpty && hi.toList.isEmpty && decide (r = -1) && decide (nb = 0) && decide (nc = 0)
theorem nat_beq0 (n : Nat) : ((n : Int) == 0) = decide (n = 0) := by rw [Bool.eq_iff_iff]; simp
set_option maxHeartbeats 1000000 in
theorem hasNothing_any (lo hi : ByteArray) (r : Int) (ab : Option Addr) (nb cb : Nat) (ac : Option Addr) (nc cc : Nat) (w : World) :
    Calls Try.prog 31 #[.agg #[.string lo, .string hi, .int .i64 r, .slice ab nb cb, .slice ac nc cc]] w fun e w' => e = .returned (.bool (emptyP lo hi r nb nc)) ∧ Below w.heap.size w w' := by
  have b0 : ∀ o, Below w.heap.size w (w.alloc o) := fun o => (Below.refl _ _).alloc (Nat.le_refl _) _
  go_enter Try.func31, Try.ntmps31
  go_wp2_with fail
  all_goals
    go_ret
    exact ⟨ret_bool (by simp_all [emptyP, nat_beq0]), b0 _⟩
end Go.Proofs.Ytbhkmmdcdfjbkaa
