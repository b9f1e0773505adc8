/-
  The specification's l04Bounds, l04Delta; spec.PageOK, spec.Bounds.
-/
import Derived.Test.YtbhkmmdcdfjbkaaPageN
namespace Go.Proofs.Ytbhkmmdcdfjbkaa
open Go.RowKit

set_option maxRecDepth 100000 in
set_option maxHeartbeats 4000000 in
theorem l04Bounds_any (lo hi : ByteArray) (r : Int) (vb : Value) (ac : Option Addr) (nc cc : Nat) (ds : List DelD) (w : World) (hD : DRow w ac nc ds) (hnc : nc ≤ 100000) :
    Calls Try.prog 49 #[.agg #[.string lo, .string hi, .int .i64 r, vb, .slice ac nc cc]] w fun x w' => x = .returned (.tuple #[.string (highE hi ds), .int .i64 (rightE r ds)]) ∧ Below w.heap.size w w' := by
  have b0 : Below w.heap.size w (w.alloc (.cells #[.string lo, .string hi, .int .i64 r, vb, .slice ac nc cc] 51)) := (Below.refl _ _).alloc (Nat.le_refl _) _
  have LD := hide hD.1
  have RD := hide (hD.below b0)
  clear hD
  have p4 : (w.alloc (.cells #[.string lo, .string hi, .int .i64 r, vb, .slice ac nc cc] 51)).cell? ⟨w.heap.size, 4, none⟩ = some (.slice ac nc cc) := by simp
  go_enter Try.func49, Try.ntmps49
  go_wp2_with fail
  generalize w.alloc (.cells #[.string lo, .string hi, .int .i64 r, vb, .slice ac nc cc] 51) = W0 at *
  go_loop [4, 5, 6] (fun h g i => ∃ q : Nat, i = .int .i64 (q : Int) ∧ q ≤ nc ∧ h = .string (highE hi (ds.take q)) ∧ g = .int .i64 (rightE r (ds.take q))) (fun _ _ i => nc - (intOf i).toNat)
  case atStart => exact ⟨0, rfl, Nat.zero_le _, rfl, rfl⟩
  case round =>
    obtain ⟨q, rfl, hq, rfl, rfl⟩ := hrel
    by_cases hlt : q < nc
    · have hqe : q < ds.length := by have := unhide LD; omega
      obtain ⟨b, off, rfl, d0, d1, d2, d3⟩ := (unhide RD).2 q hqe
      have HH := hide ((congrArg (highE hi) (takeG_snoc ds q hqe)).trans (highE_snoc hi (ds.take q) ds[q]))
      have HR := hide ((congrArg (rightE r) (takeG_snoc ds q hqe)).trans (rightE_snoc r (ds.take q) ds[q]))
      generalize ds[q] = d at *
      generalize highE hi (ds.take q) = h1 at *
      generalize rightE r (ds.take q) = r1 at *
      by_cases hk : d.kind = 3
      · have hk' : (d.kind == 3) = true := by simp [hk]
        have HK := hide hk
        clear hk
        go_wp2_with fail
        go_round
        case rel => exact ⟨q + 1, by go_num, by omega, by rw [unhide HH, if_pos (unhide HK)], by rw [unhide HR, if_pos (unhide HK)]⟩
        case measure => simp [intOf]; omega
      · have hk' : (d.kind == 3) = false := by simp [hk]
        have HK := hide hk
        clear hk
        go_wp2_with fail
        go_round
        case rel => exact ⟨q + 1, by go_num, by omega, by rw [unhide HH, if_neg (unhide HK)], by rw [unhide HR, if_neg (unhide HK)]⟩
        case measure => simp [intOf]; omega
    · obtain rfl : q = nc := by omega
      have TD := hide (show ds.take q = ds from List.take_of_length_le (by rw [unhide LD]; exact Nat.le_refl _))
      rw [unhide TD]
      go_wp2_with fail
      go_ret2
      exact ⟨rfl, b0⟩
end Go.Proofs.Ytbhkmmdcdfjbkaa
