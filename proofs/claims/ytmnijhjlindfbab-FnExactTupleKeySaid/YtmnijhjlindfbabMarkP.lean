/-
  The walks of markText and markPartS: the marks are laid, and nothing old is written but that block.
-/
import Derived.Test.YtmnijhjlindfbabPartD
import Derived.Test.YtmnijhjlindfbabRead
namespace Go.Proofs.Ytmnijhjlindfbab
open Go.RowKit
attribute [local go_sem] run_store_float

/-- The digits of a number ahead of a text, an m ahead of both. -/
def mt (j : Nat) (s : ByteArray) : ByteArray := if _h : j = 0 then strOfNums [109] ++ s else mt (j / 10) (strOfNums [(48 + (j : Int) % 10)] ++ s)
termination_by j
decreasing_by omega
theorem mt_zero (s : ByteArray) : mt 0 s = strOfNums [109] ++ s := by rw [mt, dif_pos rfl]
theorem mt_step {j : Nat} (s : ByteArray) (h : ¬ j = 0) : mt j s = mt (j / 10) (strOfNums [(48 + (j : Int) % 10)] ++ s) := by rw [mt, dif_neg h]
theorem digits_small {j r K : Nat} (h0 : 0 < j) (h : j * 10 ^ r ≤ K) (hK : K ≤ 9999999) : r ≤ 6 := by
  by_cases hr : r ≤ 6
  · exact hr
  · have h1 : 10 ^ 7 ≤ 10 ^ r := Nat.pow_le_pow_right (by omega) (by omega)
    have h2 : 1 * 10 ^ r ≤ j * 10 ^ r := Nat.mul_le_mul_right _ h0
    omega
theorem digits_step {j r K : Nat} (h : j * 10 ^ r ≤ K) : j / 10 * 10 ^ (r + 1) ≤ K := by
  have : j / 10 * 10 ≤ j := Nat.div_mul_le_self j 10
  have h2 : j / 10 * 10 * 10 ^ r ≤ j * 10 ^ r := Nat.mul_le_mul_right _ this
  rw [Nat.pow_succ, Nat.mul_comm (10 ^ r) 10, ← Nat.mul_assoc]
  omega
theorem conv_one {w : World} {x : Int} : (convert 24 9 (.slice (some ⟨w.heap.size, 0, none⟩) 1 1)).run Try.prog (w.alloc (.cells #[.int .u8 x] 5)) = .ok (.string (strOfNums [x])) (w.alloc (.cells #[.int .u8 x] 5)) :=
  run_convert_bytes_arg _ 24 5 Try.underlying24 Try.underlying5 w.heap.size 0 1 1 [x] rfl (fun i hi => by
      have : i = 0 := by simp at hi; omega
      subst this
      simp) 9 Try.underlying9

theorem str_size (l : List Int) : (strOfNums l).size = l.length := by
  have h := congrArg List.length (strOfNums_data l)
  simpa using h
set_option maxHeartbeats 1000000 in
theorem markText_any (K : Nat) (w : World) (h0 : 0 < K) (hK : K ≤ 9999999) :
    Calls Try.prog 28 #[.int .i64 K] w fun e w' => e = .returned (.string (mt K ByteArray.empty)) ∧ Below w.heap.size w w' := by
  go_enter Try.func28, Try.ntmps28
  go_wp2_with fail
  go_loopw [0, 3] (fun i o wr => ∃ (j : Nat) (s : ByteArray), j ≤ K ∧ i = .int .i64 j ∧ o = .string s ∧ s.size ≤ 8 ∧ Hid (j * 10 ^ s.size ≤ K) ∧ Hid (mt j s = mt K ByteArray.empty) ∧ Below w.heap.size w wr) (fun i _ _ => (intOf i).toNat)
  case atStart => exact ⟨K, ByteArray.empty, Nat.le_refl _, rfl, rfl, by simp, by show K * 10 ^ 0 ≤ K; omega, rfl, Below.refl _ _⟩
  case round =>
    obtain ⟨j, s, hj, rfl, rfl, hs, hd, hm, hb⟩ := hrel
    by_cases hp : 0 < j
    · have hsz := hb.size
      have h6 := digits_small hp (unhide hd) hK
      have D := hide (digits_step (unhide hd))
      have M := hide ((mt_step s (by omega)).symm.trans (unhide hm))
      have hc := fun x => conv_one (w := wr) (x := x)
      have hz1 : (strOfNums [(48 + (j : Int) % 10)]).size = 1 := str_size _
      have hz2 : (strOfNums [(48 + (j : Int) % 10)] ++ s).size = s.size + 1 := by rw [ByteArray.size_append, hz1]; omega
      go_wp2_with fail
      go_roundw
      case rel => exact ⟨j / 10, _, by omega, by go_num, rfl, by omega, by rw [hz2]; exact unhide D, unhide M, hb.alloc hsz _⟩
      case measure => simp [intOf]; omega
    · obtain rfl : j = 0 := by omega
      have M := hide ((mt_zero s).symm.trans (unhide hm))
      go_wp2_with fail
      go_ret
      exact ⟨by rw [← unhide M]; rfl, hb⟩

theorem markText_at (K : Nat) (x : Int) (w : World) (hx : x = K) (h0 : 0 < K) (hK : K ≤ 9999999) :
    Calls Try.prog 28 #[.int .i64 x] w fun e w' => e = .returned (.string (mt K ByteArray.empty)) ∧ Below w.heap.size w w' := by
  subst hx; exact markText_any K w h0 hK

/-- The part that is laid as the i-th mark. -/
def markD (k0 : Nat) (i : Nat) : PartD := ⟨k0 + 4 * i, k0 + 4 * i + 1, floatOfInt .f64 (k0 + 4 * i + 2), mt (k0 + 4 * i + 3) ByteArray.empty⟩
def markDs (k0 n : Nat) : List PartD := (List.range n).map (markD k0)
/-- The first k parts of a block are marked. -/
def Marked (k0 k : Nat) (F : Nat → Value) : Prop := ∀ i, i < k → F (i * 4) = .int .i64 (markD k0 i).k ∧ F (i * 4 + 1) = .int .i64 (markD k0 i).n ∧ F (i * 4 + 2) = .float .f64 (markD k0 i).f ∧ F (i * 4 + 3) = .string (markD k0 i).t
theorem marked_step {k0 k : Nat} {F : Nat → Value} (h : Marked k0 k F) {v0 v1 v2 v3 : Value} (h0 : v0 = .int .i64 (markD k0 k).k) (h1 : v1 = .int .i64 (markD k0 k).n) (h2 : v2 = .float .f64 (markD k0 k).f) (h3 : v3 = .string (markD k0 k).t) :
    Marked k0 (k + 1) (fun j => if j = k * 4 + 3 then v3 else if j = k * 4 + 2 then v2 else if j = k * 4 + 1 then v1 else if j = k * 4 then v0 else F j) := by
  intro i hi
  subst h0 h1 h2 h3
  by_cases e : i = k
  · subst e
    refine ⟨?_, ?_, ?_, ?_⟩
    · simp
    · simp
    · simp
    · simp
  · obtain ⟨g0, g1, g2, g3⟩ := h i (by omega)
    refine ⟨?_, ?_, ?_, ?_⟩
    all_goals
      simp only
      rw [if_neg (by omega), if_neg (by omega), if_neg (by omega), if_neg (by omega)]
    · exact g0
    · exact g1
    · exact g2
    · exact g3
theorem prow_marked {w : World} {g n k0 : Nat} {F : Nat → Value} (h : Blk w g (n * 4) F) (hm : Marked k0 n F) : PRow w (some ⟨g, 0, none⟩) n (markDs k0 n) := by
  refine ⟨by simp [markDs], fun i hi => ⟨g, 0, rfl, ?_⟩⟩
  have hi' : i < n := by simpa [markDs] using hi
  obtain ⟨m0, m1, m2, m3⟩ := hm i hi'
  have e : (markDs k0 n)[i] = markD k0 i := by simp [markDs]
  rw [e, Nat.zero_add, ← m0, ← m1, ← m2, ← m3]
  exact ⟨h.cell _ (by omega), h.cell _ (by omega), h.cell _ (by omega), h.cell _ (by omega)⟩

set_option maxHeartbeats 1000000 in
theorem markPartS_some (g n c k0 : Nat) (F0 : Nat → Value) (w : World) (hn : 4 * n + k0 ≤ 9999990) (h1 : Blk w g (n * 4) F0) :
    Calls Try.prog 12 #[.slice (some ⟨g, 0, none⟩) n c, .int .i64 k0] w fun e w' => e = .returned (.int .i64 (k0 + 4 * n)) ∧ PRow w' (some ⟨g, 0, none⟩) n (markDs k0 n) ∧ Wrote g w w' := by
  have H := hide h1
  clear h1
  go_enter Try.func12, Try.ntmps12
  go_wp2_with fail
  go_loopw [1, 5] (fun q i wr => ∃ k : Nat, k ≤ n ∧ i = .int .i64 k ∧ q = .int .i64 (k0 + 4 * k) ∧ (∃ F, Hid (Blk wr g (n * 4) F) ∧ Hid (Marked k0 k F)) ∧ Wrote g w wr) (fun _ i _ => n - (intOf i).toNat)
  case atStart => exact ⟨0, Nat.zero_le _, rfl, by simp, ⟨F0, unhide H, fun i hi => absurd hi (Nat.not_lt_zero _)⟩, Wrote.refl _ _⟩
  case round =>
    obtain ⟨k, hk, rfl, rfl, ⟨F, hB, hM⟩, hw⟩ := hrel
    by_cases hlt : k < n
    · have e0 := (unhide hB).cell (k * 4) (by omega)
      have e1 := (unhide hB).cell (k * 4 + 1) (by omega)
      have e2 := (unhide hB).cell (k * 4 + 2) (by omega)
      have f0 := (unhide hB).free (k * 4)
      have f1 := (unhide hB).free (k * 4 + 1)
      have f2 := (unhide hB).free (k * 4 + 2)
      have B1 := hide ((((unhide hB).set (p := k * 4) (by omega) (.int .i64 (k0 + 4 * k))).set (p := k * 4 + 1) (by omega) (.int .i64 (k0 + 4 * k + 1))).set (p := k * 4 + 2) (by omega) (.float .f64 (floatOfInt .f64 (k0 + 4 * k + 1 + 1))))
      have W1 := hide (hw.trans (((Wrote.set wr g (k * 4) (.int .i64 (k0 + 4 * k))).trans (Wrote.set _ g (k * 4 + 1) (.int .i64 (k0 + 4 * k + 1)))).trans (Wrote.set _ g (k * 4 + 2) (.float .f64 (floatOfInt .f64 (k0 + 4 * k + 1 + 1))))))
      generalize F (k * 4) = u0 at *
      generalize F (k * 4 + 1) = u1 at *
      generalize F (k * 4 + 2) = u2 at *
      have MS := hide (fun v0 v1 v2 v3 => marked_step (v0 := v0) (v1 := v1) (v2 := v2) (v3 := v3) (unhide hM))
      clear hw hB hM
      go_wp2_with fail
      generalize ((wr.setCell ⟨g, k * 4, none⟩ (Value.int .i64 (k0 + 4 * k))).setCell ⟨g, k * 4 + 1, none⟩ (Value.int .i64 (k0 + 4 * k + 1))).setCell ⟨g, k * 4 + 2, none⟩ (Value.float .f64 (floatOfInt .f64 (k0 + 4 * k + 1 + 1))) = wx at *
      refine (markText_at (k0 + 4 * k + 3) _ wx (by omega) (by omega) (by omega)).mono ?_
      rintro e w2 ⟨rfl, hb2⟩
      have B2 := hide ((unhide B1).below hb2 (unhide B1).lt)
      have W2 := hide ((unhide W1).trans (Wrote.of_below hb2))
      have f3 := (unhide B2).free (k * 4 + 3)
      obtain ⟨u3, e3⟩ : ∃ u, w2.cell? ⟨g, k * 4 + 3, none⟩ = some u := ⟨_, (unhide B2).cell (k * 4 + 3) (by omega)⟩
      have B3 := hide ((unhide B2).set (p := k * 4 + 3) (by omega) (.string (mt (k0 + 4 * k + 3) ByteArray.empty)))
      have W3 := hide ((unhide W2).trans (Wrote.set w2 g (k * 4 + 3) (.string (mt (k0 + 4 * k + 3) ByteArray.empty))))
      have M3 := hide (unhide MS (.int .i64 (k0 + 4 * k)) (.int .i64 (k0 + 4 * k + 1)) (.float .f64 (floatOfInt .f64 (k0 + 4 * k + 1 + 1))) (.string (mt (k0 + 4 * k + 3) ByteArray.empty)) rfl rfl (by rw [show (k0 + 4 * k + 1 + 1 : Int) = k0 + 4 * k + 2 by omega]; rfl) rfl)
      clear B1 W1 hb2 B2 W2 MS e0 e1 e2 f0 f1 f2
      generalize mt (k0 + 4 * k + 3) ByteArray.empty = tx at *
      go_wp2_with fail
      go_roundw
      case rel => exact ⟨k + 1, by omega, by go_num, by go_num, ⟨_, unhide B3, unhide M3⟩, unhide W3⟩
      case measure => simp [intOf]; omega
    · obtain rfl : k = n := by omega
      have P := hide (prow_marked (unhide hB) (unhide hM))
      go_wp2_with fail
      go_ret
      exact ⟨rfl, unhide P, hw⟩
end Go.Proofs.Ytmnijhjlindfbab
