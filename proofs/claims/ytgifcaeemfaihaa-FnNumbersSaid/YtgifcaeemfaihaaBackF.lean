/-
  The walks of KeyFloat and KeyInt, the program's, at keys: the float, the number is read back.
-/
import Derived.Test.YtgifcaeemfaihaaKeyBack
import Derived.Test.YtgifcaeemfaihaaRankBack
set_option maxRecDepth 100000
namespace Go.Proofs.Ytgifcaeemfaihaa
open Go.RowKit

theorem eights_lits (n : Int) : ∃ b0 b1 b2 b3 b4 b5 b6 b7 : Int, eights n 8 = [b0, b1, b2, b3, b4, b5, b6, b7] := ⟨_, _, _, _, _, _, _, _, rfl⟩
set_option maxHeartbeats 1000000 in
theorem keyFloat_any (b off c f : Nat) (w : World) (hnc : 8 ≤ c) (hc : c ≤ maxLen) (hf : f < 18446744073709551616) (hr : Row w (some ⟨b, off, none⟩) 8 (eights (frank f) 8)) :
    Calls Try.prog 9 #[.slice (some ⟨b, off, none⟩) 8 c] w fun e w' => e = .returned (.tuple #[.float .f64 f, .int .i64 0]) ∧ Below w.heap.size w w' := by
  have hnum := num_eights (frank f) (frank_range hf).1 (frank_range hf).2
  have hby := eights_bytes (frank f)
  obtain ⟨b0, b1, b2, b3, b4, b5, b6, b7, he⟩ := eights_lits (frank f)
  rw [he] at hnum hby hr
  have hO := onlyEight_any b off c [b0, b1, b2, b3, b4, b5, b6, b7] w hnc hc hr
  have HO := hide hO
  have HB := hide hby
  have HN := hide hnum
  clear hO hby hnum he hr
  go_enter Try.func9, Try.ntmps9
  go_wp2_with fail
  refine (unhide HO).mono ?_
  rintro e w1 ⟨rfl, hb1⟩
  go_wp2_with fail
  refine (rankOf_any b0 b1 b2 b3 b4 b5 b6 b7 _ (unhide HB)).mono ?_
  rintro e w2 ⟨rfl, hb2⟩
  rw [unhide HN]
  go_wp2_with fail
  refine (rankFloat_any f _ hf).mono ?_
  rintro e w3 ⟨rfl, rfl⟩
  have bA : Below w.heap.size w w3 := hb1.trans (((Below.refl w.heap.size w1).alloc hb1.size _).trans (hb2.mono (by have := hb1.size; simp; omega)))
  clear hb1 hb2
  go_wp2_with fail
  go_ret2
  exact ⟨rfl, bA⟩

set_option maxHeartbeats 1000000 in
theorem keyInt_any (b off c : Nat) (n : Int) (w : World) (hnc : 8 ≤ c) (hc : c ≤ maxLen) (h0 : -9223372036854775808 ≤ n) (h1 : n < 9223372036854775808) (hr : Row w (some ⟨b, off, none⟩) 8 (eights (rank n) 8)) :
    Calls Try.prog 13 #[.slice (some ⟨b, off, none⟩) 8 c] w fun e w' => e = .returned (.tuple #[.int .i64 n, .int .i64 0]) ∧ Below w.heap.size w w' := by
  have hnum := num_eights (rank n) (by rw [rank_nat h0 h1]; omega) (by rw [rank_nat h0 h1]; omega)
  have hby := eights_bytes (rank n)
  obtain ⟨b0, b1, b2, b3, b4, b5, b6, b7, he⟩ := eights_lits (rank n)
  rw [he] at hnum hby hr
  have hO := onlyEight_any b off c [b0, b1, b2, b3, b4, b5, b6, b7] w hnc hc hr
  have HO := hide hO
  have HB := hide hby
  have HN := hide hnum
  clear hO hby hnum he hr
  go_enter Try.func13, Try.ntmps13
  go_wp2_with fail
  refine (unhide HO).mono ?_
  rintro e w1 ⟨rfl, hb1⟩
  go_wp2_with fail
  refine (rankOf_any b0 b1 b2 b3 b4 b5 b6 b7 _ (unhide HB)).mono ?_
  rintro e w2 ⟨rfl, hb2⟩
  rw [unhide HN]
  go_wp2_with fail
  refine (rankInt_any n _ h0 h1).mono ?_
  rintro e w3 ⟨rfl, rfl⟩
  have bA : Below w.heap.size w w3 := hb1.trans (((Below.refl w.heap.size w1).alloc hb1.size _).trans (hb2.mono (by have := hb1.size; simp; omega)))
  clear hb1 hb2
  go_wp2_with fail
  go_ret2
  exact ⟨rfl, bA⟩
end Go.Proofs.Ytgifcaeemfaihaa
