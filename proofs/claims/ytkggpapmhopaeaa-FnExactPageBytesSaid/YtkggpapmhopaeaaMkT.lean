/-
  The walk of markText.
-/
import Derived.Test.YtkggpapmhopaeaaOwn
import Derived.Laws.BytesArg
namespace Go.Proofs.Ytkggpapmhopaeaa
open Go.RowKit

/-- The digits of a number ahead of a text, an m ahead of both. -/
def mt (j : Nat) (s : ByteArray) : ByteArray := if _h : j = 0 then strOfNums [109] ++ s else mt (j / 10) (strOfNums [(48 + (j : Int) % 10)] ++ s)
termination_by j
decreasing_by omega
theorem mt_zero (s : ByteArray) : mt 0 s = strOfNums [109] ++ s := by rw [mt, dif_pos rfl]
theorem mt_step {j : Nat} (s : ByteArray) (h : ¬ j = 0) : mt j s = mt (j / 10) (strOfNums [(48 + (j : Int) % 10)] ++ s) := by rw [mt, dif_neg h]
theorem digits_small {j r K : Nat} (h0 : 0 < j) (h : j * 10 ^ r ≤ K) (hK : K ≤ 9999999) : r ≤ 6 := by
  by_cases hr : r ≤ 6
  · exact hr
  · have h1 : 10 ^ 7 ≤ 10 ^ r := Nat.pow_le_pow_right (by omega) (by omega)
    have h2 : 1 * 10 ^ r ≤ j * 10 ^ r := Nat.mul_le_mul_right _ h0
    omega
theorem digits_step {j r K : Nat} (h : j * 10 ^ r ≤ K) : j / 10 * 10 ^ (r + 1) ≤ K := by
  have : j / 10 * 10 ≤ j := Nat.div_mul_le_self j 10
  have h2 : j / 10 * 10 * 10 ^ r ≤ j * 10 ^ r := Nat.mul_le_mul_right _ this
  rw [Nat.pow_succ, Nat.mul_comm (10 ^ r) 10, ← Nat.mul_assoc]
  omega
theorem conv_one {w : World} {x : Int} : (convert 49 9 (.slice (some ⟨w.heap.size, 0, none⟩) 1 1)).run Try.prog (w.alloc (.cells #[.int .u8 x] 5)) = .ok (.string (strOfNums [x])) (w.alloc (.cells #[.int .u8 x] 5)) :=
  run_convert_bytes_arg _ 49 5 Try.underlying49 Try.underlying5 w.heap.size 0 1 1 [x] rfl (fun i hi => by
      have : i = 0 := by simp at hi; omega
      subst this
      simp) 9 Try.underlying9

theorem str_size (l : List Int) : (strOfNums l).size = l.length := by
  have h := congrArg List.length (strOfNums_data l)
  simpa using h
set_option maxHeartbeats 1000000 in
theorem markText_any (K : Nat) (w : World) (h0 : 0 < K) (hK : K ≤ 9999999) :
    Calls Try.prog 79 #[.int .i64 K] w fun e w' => e = .returned (.string (mt K ByteArray.empty)) ∧ Below w.heap.size w w' := by
  go_enter Try.func79, Try.ntmps79
  go_wp2_with fail
  go_loopw [0, 3] (fun i o wr => ∃ (j : Nat) (s : ByteArray), j ≤ K ∧ i = .int .i64 j ∧ o = .string s ∧ s.size ≤ 8 ∧ Hid (j * 10 ^ s.size ≤ K) ∧ Hid (mt j s = mt K ByteArray.empty) ∧ Below w.heap.size w wr) (fun i _ _ => (intOf i).toNat)
  case atStart => exact ⟨K, ByteArray.empty, Nat.le_refl _, rfl, rfl, by simp, by show K * 10 ^ 0 ≤ K; omega, rfl, Below.refl _ _⟩
  case round =>
    obtain ⟨j, s, hj, rfl, rfl, hs, hd, hm, hb⟩ := hrel
    by_cases hp : 0 < j
    · have hsz := hb.size
      have h6 := digits_small hp (unhide hd) hK
      have D := hide (digits_step (unhide hd))
      have M := hide ((mt_step s (by omega)).symm.trans (unhide hm))
      have hc := fun x => conv_one (w := wr) (x := x)
      have hz1 : (strOfNums [(48 + (j : Int) % 10)]).size = 1 := str_size _
      have hz2 : (strOfNums [(48 + (j : Int) % 10)] ++ s).size = s.size + 1 := by rw [ByteArray.size_append, hz1]; omega
      go_wp2_with fail
      go_roundw
      case rel => exact ⟨j / 10, _, by omega, by go_num, rfl, by omega, by rw [hz2]; exact unhide D, unhide M, hb.alloc hsz _⟩
      case measure => simp [intOf]; omega
    · obtain rfl : j = 0 := by omega
      have M := hide ((mt_zero s).symm.trans (unhide hm))
      go_wp2_with fail
      go_ret
      exact ⟨by rw [← unhide M]; rfl, hb⟩

theorem markText_at (K : Nat) (x : Int) (w : World) (hx : x = K) (h0 : 0 < K) (hK : K ≤ 9999999) :
    Calls Try.prog 79 #[.int .i64 x] w fun e w' => e = .returned (.string (mt K ByteArray.empty)) ∧ Below w.heap.size w w' := by
  subst hx; exact markText_any K w h0 hK

end Go.Proofs.Ytkggpapmhopaeaa
