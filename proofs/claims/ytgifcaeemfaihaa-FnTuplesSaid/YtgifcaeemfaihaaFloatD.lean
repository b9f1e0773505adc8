/-
  The walk of the drawn float.
-/
import Derived.Test.YtgifcaeemfaihaaSrcN
import Derived.Test.YtgifcaeemfaihaaFloatRank
import Derived.Laws.FloatArith
set_option maxRecDepth 100000
namespace Go.Proofs.Ytgifcaeemfaihaa
open Go.RowKit

theorem frombits_run (n : Int) (w : World) : (callFunc 68 #[.int .u64 n]).run Try.prog w = .ok (.value (.float .f64 n.toNat)) w := by kernel_rfl
theorem lit_cells (w : World) (kd : IntKind) (L : List Int) (t : TypeId) (k : Nat) (h : k < L.length) : (w.alloc (.cells (L.map (Value.int kd)).toArray t)).cell? ⟨w.heap.size, k, none⟩ = some (.int kd L[k]) := by
  simp [h]
set_option maxHeartbeats 1000000 in
theorem odd_any (p : Nat) (a : Option Addr) (n c : Nat) (xs : List Int) (K : Int) (w : World) (h : Src w p a n c xs K) (hK : K ≤ 700000) :
    Calls Try.prog 69 #[.pointer (some ⟨p, 0, none⟩)] w fun e w' => ∃ r : Int, e = .returned (.int .i64 r) ∧ Wrote p w w' ∧ Src w' p a n c xs (K + 3) := by
  have hp := cell_lt h.code
  go_enter Try.func69, Try.ntmps69
  go_wp2_with fail
  refine (next_any p a n c xs K 12 _ (h.alloc _) (by omega) (by omega) (by omega)).mono ?_
  rintro e w1 ⟨r, rfl, hr0, hr1, ho, hs⟩
  obtain ⟨k, rfl⟩ := Int.eq_ofNat_of_zero_le hr0
  have hk : k < 12 := by omega
  have hcell := (ho.cell (p := ⟨w.heap.size, k, none⟩) (by show w.heap.size ≠ p; omega)).trans (lit_cells w .i64 [0, -1, 1, 2, 63, 64, 65, 4096, 4097, 9223372036854775807, -9223372036854775808, 30] 3 k hk)
  generalize ([0, -1, 1, 2, 63, 64, 65, 4096, 4097, 9223372036854775807, -9223372036854775808, 30] : List Int)[k] = v at *
  have bA : Wrote p w w1 := (Wrote.alloc w p _).trans ho.wrote
  clear ho
  go_wp2_with fail
  go_ret
  exact ⟨v, rfl, bA, hs⟩

theorem table_range (k : Nat) (h : k < 9) : 0 ≤ ([0, 9223372036854775808, 9218868437227405312, 18442240474082181120, 9221120237041090561, 18444492273895866368, 1, 9218868437227405313, 9218868437227405311] : List Int)[k] ∧ ([0, 9223372036854775808, 9218868437227405312, 18442240474082181120, 9221120237041090561, 18444492273895866368, 1, 9218868437227405313, 9218868437227405311] : List Int)[k] < 18446744073709551616 := by
  have hall : ∀ v ∈ ([0, 9223372036854775808, 9218868437227405312, 18442240474082181120, 9221120237041090561, 18444492273895866368, 1, 9218868437227405313, 9218868437227405311] : List Int), 0 ≤ v ∧ v < 18446744073709551616 := by decide
  exact hall _ (List.getElem_mem h)
theorem isNum (k : Nat) (h : k < 2000) : (Ieee.double.read (floatOfInt .f64 ((k : Int) - 1000)) matches .number ..) = true := by
  have : ∀ k : Nat, k < 2000 → (Ieee.double.read (floatOfInt .f64 ((k : Int) - 1000)) matches .number ..) = true := by decide +kernel
  exact this k h
theorem isPos (k : Nat) (h : k < 9) : (match Ieee.double.read (floatOfInt .f64 (1 + (k : Int))) with | .number _ m _ => m != 0 | _ => false) = true := by
  have : ∀ k : Nat, k < 9 → (match Ieee.double.read (floatOfInt .f64 (1 + (k : Int))) with | .number _ m _ => m != 0 | _ => false) = true := by decide +kernel
  exact this k h
/-- A number by a number that is not nought: the division has an answer. -/
theorem quo_some (k l : Nat) (h : k < 2000) (hl : l < 9) : ∃ f, floatBits .quo .f64 (floatOfInt .f64 ((k : Int) - 1000)) (floatOfInt .f64 (1 + (l : Int))) = some f ∧ f < 18446744073709551616 := by
  have h1 := isNum k h
  have h2 := isPos l hl
  have hd : ∃ f, floatBits .quo .f64 (floatOfInt .f64 ((k : Int) - 1000)) (floatOfInt .f64 (1 + (l : Int))) = some f := by
    show ∃ f, ((Ieee.double.read _).quotient _ (Ieee.double.read _)).map Ieee.double.write = some f
    revert h1 h2
    generalize Ieee.double.read (floatOfInt .f64 ((k : Int) - 1000)) = x
    generalize Ieee.double.read (floatOfInt .f64 (1 + (l : Int))) = y
    intro h1 h2
    cases x with
    | number s m i =>
      cases y with
      | number t n j =>
        have hn : ¬ n = 0 := by simpa using h2
        simp only [Ieee.Datum.quotient, hn, if_false, Option.map_some]
        exact ⟨_, rfl⟩
      | infinity t => simp at h2
      | nan t f => simp at h2
    | infinity s => simp at h1
    | nan s f => simp at h1
  obtain ⟨f, hf⟩ := hd
  have := floatBits_wf hf
  exact ⟨f, hf, by simpa [Lit.wf] using this⟩

set_option maxHeartbeats 1000000 in
theorem float_any (p : Nat) (a : Option Addr) (n c : Nat) (xs : List Int) (K : Int) (w : World) (h : Src w p a n c xs K) (hK : K ≤ 500000) :
    Calls Try.prog 33 #[.pointer (some ⟨p, 0, none⟩)] w fun e w' => ∃ f : Nat, e = .returned (.float .f64 f) ∧ f < 18446744073709551616 ∧ Wrote p w w' ∧ Src w' p a n c xs (K + 9) := by
  have hp := cell_lt h.code
  go_enter Try.func33, Try.ntmps33
  go_wp2_with fail
  refine (next_any p a n c xs K 8 _ h (by omega) (by omega) (by omega)).mono ?_
  rintro e w1 ⟨r, rfl, hr0, hr1, ho, hs⟩
  have bB := ho.wrote
  have hz := hide ho.size
  have hp1 := cell_lt hs.code
  clear ho
  by_cases h0 : r = 0
  · subst h0
    go_wp2_with fail
    refine (next_any p a n c xs _ 9 _ (hs.alloc _) (by omega) (by omega) (by omega)).mono ?_
    rintro e w2 ⟨q, rfl, hq0, hq1, ho2, hs2⟩
    obtain ⟨k, rfl⟩ := Int.eq_ofNat_of_zero_le hq0
    have hk : k < 9 := by omega
    have hcell := (ho2.cell (p := ⟨w1.heap.size, k, none⟩) (by show w1.heap.size ≠ p; omega)).trans (lit_cells w1 .u64 [0, 9223372036854775808, 9218868437227405312, 18442240474082181120, 9221120237041090561, 18444492273895866368, 1, 9218868437227405313, 9218868437227405311] 63 k hk)
    have hrg := table_range k hk
    generalize ([0, 9223372036854775808, 9218868437227405312, 18442240474082181120, 9221120237041090561, 18444492273895866368, 1, 9218868437227405313, 9218868437227405311] : List Int)[k] = v at *
    have hfb := frombits_run v
    have bA : Wrote p w w2 := bB.trans ((Wrote.alloc w1 p _).trans ho2.wrote)
    have hvf : v.toNat < 18446744073709551616 := by omega
    have HV := hide hvf
    clear ho2 hrg hvf bB
    go_wp2_with fail
    go_ret
    exact ⟨v.toNat, rfl, unhide HV, bA, hs2.more (by omega)⟩
  by_cases h1 : r = 1
  · subst h1
    go_wp2_with fail
    refine (odd_any p a n c xs _ _ hs (by omega)).mono ?_
    rintro e w2 ⟨q, rfl, hb2, hs2⟩
    have hfb := frombits_run (IntKind.u64.wrap q)
    have hvf : (IntKind.u64.wrap q).toNat < 18446744073709551616 := by rw [IntKind.wrap_u64]; omega
    have HV := hide hvf
    have bA := bB.trans hb2
    clear hvf hb2 bB
    go_wp2_with fail
    go_ret
    exact ⟨_, rfl, unhide HV, bA, hs2.more (by omega)⟩
  · have q0 : (r == 0) = false := by simp [h0]
    have q1 : (r == 1) = false := by simp [h1]
    clear h0 h1
    go_wp2_with fail
    refine (next_any p a n c xs _ 2000 _ hs (by omega) (by omega) (by omega)).mono ?_
    rintro e w2 ⟨x, rfl, hx0, hx1, ho2, hs2⟩
    have bC := bB.trans ho2.wrote
    clear ho2 bB hz
    go_wp2_with fail
    refine (next_any p a n c xs _ 9 _ hs2 (by omega) (by omega) (by omega)).mono ?_
    rintro e w3 ⟨y, rfl, hy0, hy1, ho3, hs3⟩
    have bD := bC.trans ho3.wrote
    clear ho3 bC
    obtain ⟨k, rfl⟩ := Int.eq_ofNat_of_zero_le hx0
    obtain ⟨l, rfl⟩ := Int.eq_ofNat_of_zero_le hy0
    obtain ⟨f, hf, hf2⟩ := quo_some k l (by omega) (by omega)
    have hrun := fun w => run_float_arith (P := Try.prog) w .quo 23 .f64 _ _ f hf
    have HF := hide hf2
    clear hf hf2
    go_wp2_with fail
    go_ret
    exact ⟨f, rfl, unhide HF, bD, hs3.more (by omega)⟩

end Go.Proofs.Ytgifcaeemfaihaa
