/-
  How two parts and two lists of parts stand: the plain answer, and the walks of the program's and the specification's functions for it.
-/
import Derived.Test.YtgifcaeemfaihaaCmpF
import Derived.Test.YtgifcaeemfaihaaPartOK
import Derived.Lib.Bytealg
set_option maxRecDepth 100000
namespace Go.Proofs.Ytgifcaeemfaihaa
open Go.RowKit
attribute [local go_sem] run_store_float

/-- How two texts stand by their bytes. -/
def cmpT (a b : ByteArray) : Int := if Op.bytesLess a.toList b.toList then -1 else if Op.bytesLess b.toList a.toList then 1 else 0
theorem cmpB_eq : ∀ a b : List UInt8, Lib.compareBytes a b = if Op.bytesLess a b then -1 else if Op.bytesLess b a then 1 else 0
  | [], [] => by simp [Lib.compareBytes, Op.bytesLess]
  | [], _ :: _ => by simp [Lib.compareBytes, Op.bytesLess]
  | _ :: _, [] => by simp [Lib.compareBytes, Op.bytesLess]
  | a :: r, b :: s => by
    have ih := cmpB_eq r s
    have e1 : Op.bytesLess (a :: r) (b :: s) = (decide (a < b) || (a == b && Op.bytesLess r s)) := rfl
    have e2 : Op.bytesLess (b :: s) (a :: r) = (decide (b < a) || (b == a && Op.bytesLess s r)) := rfl
    rw [e1, e2]
    unfold Lib.compareBytes
    by_cases h1 : a < b
    · simp [h1]
    · by_cases h2 : b < a
      · have ne : ¬ a = b := fun e => by subst e; exact absurd h2 (UInt8.lt_irrefl _)
        simp [h1, h2, ne]
      · have e : a = b := UInt8.le_antisymm (UInt8.not_lt.1 h2) (UInt8.not_lt.1 h1)
        subst e
        simp [h1, ih]
theorem less_turn : ∀ a b : List UInt8, Op.bytesLess b a = (!Op.bytesLess a b && !(a == b))
  | [], [] => by simp [Op.bytesLess]
  | [], _ :: _ => by simp [Op.bytesLess]
  | _ :: _, [] => by simp [Op.bytesLess]
  | a :: r, b :: s => by
    have ih := less_turn r s
    have e1 : Op.bytesLess (a :: r) (b :: s) = (decide (a < b) || (a == b && Op.bytesLess r s)) := rfl
    have e2 : Op.bytesLess (b :: s) (a :: r) = (decide (b < a) || (b == a && Op.bytesLess s r)) := rfl
    rw [e1, e2, ih]
    by_cases h1 : a < b
    · have n1 : ¬ b < a := fun h => absurd (UInt8.lt_trans h1 h) (UInt8.lt_irrefl _)
      have n2 : ¬ b = a := fun e => by subst e; exact absurd h1 (UInt8.lt_irrefl _)
      simp [h1, n1, n2]
    · by_cases h2 : b < a
      · have n2 : ¬ a = b := fun e => by subst e; exact absurd h2 (UInt8.lt_irrefl _)
        simp [h1, h2, n2]
      · have e : a = b := UInt8.le_antisymm (UInt8.not_lt.1 h2) (UInt8.not_lt.1 h1)
        subst e
        simp [h1]
theorem cmpT_eq (a b : ByteArray) : Extern.BytealgCompare.cmp a b = cmpT a b := by
  rw [Lib.cmp_eq, cmpB_eq, cmpT, ByteArray.toList_eq, ByteArray.toList_eq]
theorem run_cmps (a b : ByteArray) (w : World) : (callFunc 93 #[.string a, .string b]).run Try.prog w = .ok (.value (.int .i64 (Extern.BytealgCompare.cmp a b))) w := by kernel_rfl

theorem bytealgCmp_any (a b : ByteArray) (w : World) : Calls Try.prog 91 #[.string a, .string b] w fun e w' => e = .returned (.int .i64 (cmpT a b)) ∧ w' = w := by
  have hr := run_cmps a b
  rw [cmpT_eq] at hr
  go_enter Try.func91, Try.ntmps91
  go_wp2_with fail
  go_ret
  exact ⟨rfl, rfl⟩
theorem stringsCmp_any (a b : ByteArray) (w : World) : Calls Try.prog 76 #[.string a, .string b] w fun e w' => e = .returned (.int .i64 (cmpT a b)) ∧ w' = w := by
  go_enter Try.func76, Try.ntmps76
  go_wp2_with fail
  refine (bytealgCmp_any a b _).mono ?_
  rintro e w1 ⟨rfl, rfl⟩
  go_wp2_with fail
  go_ret
  exact ⟨rfl, rfl⟩

theorem isNaNi_any (x : Int) (w : World) : Calls Try.prog 77 #[.int .i64 x] w fun e w' => e = .returned (.bool false) ∧ w' = w := by
  go_enter Try.func77, Try.ntmps77
  go_wp2
  all_goals go_ret
  all_goals exact ⟨ret_bool (by simp), rfl⟩
set_option maxHeartbeats 400000 in
theorem cmpInt_any (x y : Int) (w : World) : Calls Try.prog 51 #[.int .i64 x, .int .i64 y] w fun e w' => e = .returned (.int .i64 (cmpI x y)) ∧ w' = w := by
  rcases (show x < y ∨ x = y ∨ y < x from by omega) with h | h | h
  · have H := hide (show cmpI x y = -1 by simp [cmpI, h])
    go_enter Try.func51, Try.ntmps51
    go_wp2_with (go_at_call 77; refine (isNaNi_any _ _).mono ?_; rintro e w' ⟨rfl, rfl⟩)
    all_goals go_ret
    all_goals exact ⟨ret_int (unhide H).symm, rfl⟩
  · subst h
    have H := hide (show cmpI x x = 0 by simp [cmpI])
    go_enter Try.func51, Try.ntmps51
    go_wp2_with (go_at_call 77; refine (isNaNi_any _ _).mono ?_; rintro e w' ⟨rfl, rfl⟩)
    all_goals go_ret
    all_goals exact ⟨ret_int (unhide H).symm, rfl⟩
  · have H := hide (show cmpI x y = 1 by simp [cmpI, h]; omega)
    go_enter Try.func51, Try.ntmps51
    go_wp2_with (go_at_call 77; refine (isNaNi_any _ _).mono ?_; rintro e w' ⟨rfl, rfl⟩)
    all_goals go_ret
    all_goals exact ⟨ret_int (unhide H).symm, rfl⟩
def sgn (a b : Bool) : Int := if a = true then -1 else if b = true then 1 else 0
theorem sign_any (a b : Bool) (w : World) : Calls Try.prog 54 #[.bool a, .bool b] w fun e w' => e = .returned (.int .i64 (sgn a b)) ∧ w' = w := by
  cases a <;> cases b
  all_goals
    go_enter Try.func54, Try.ntmps54
    go_wp2_with fail
    go_ret
    exact ⟨rfl, rfl⟩

/-- How two parts stand. -/
def cmpD (a b : PartD) : Int :=
  if a.k ≠ b.k then cmpI a.k b.k
  else if a.k = 1 then cmpI a.n b.n else if a.k = 2 then cmpI (frank a.f) (frank b.f) else cmpT a.t b.t
theorem cmpI_sign (x y : Int) : sgn (decide (x < y)) (decide (y < x)) = cmpI x y := by simp [cmpI, sgn]
theorem cmpI_sign' {x y : Int} (h : x ≠ y) : sgn (decide (x < y)) true = cmpI x y := by
  unfold cmpI sgn
  by_cases h1 : x < y
  · simp [h1]
  · have : y < x := by omega
    simp [h1, this]

set_option maxHeartbeats 1000000 in
theorem comparePart_any (d e : PartD) (w : World) (hf : d.f < 18446744073709551616) (hg : e.f < 18446744073709551616) :
    Calls Try.prog 50 #[pv d, pv e] w fun r w' => r = .returned (.int .i64 (cmpD d e)) ∧ Below w.heap.size w w' := by
  obtain ⟨k, n, f, t⟩ := d
  obtain ⟨k', n', f', t'⟩ := e
  simp only at hf hg
  by_cases hk : k = k'
  · subst hk
    by_cases h1 : k = 1
    · subst h1
      have E := hide (show cmpD ⟨1, n, f, t⟩ ⟨1, n', f', t'⟩ = cmpI n n' by simp [cmpD])
      go_enter Try.func50, Try.ntmps50
      go_wp2_with fail
      refine (cmpInt_any n n' _).mono ?_
      rintro r w1 ⟨rfl, rfl⟩
      go_wp2_with fail
      go_ret
      exact ⟨ret_int (unhide E).symm, ((Below.refl _ _).alloc (Nat.le_refl _) _).alloc (by simp) _⟩
    by_cases h2 : k = 2
    · subst h2
      have E := hide (show cmpD ⟨2, n, f, t⟩ ⟨2, n', f', t'⟩ = cmpI (frank f) (frank f') by simp [cmpD])
      go_enter Try.func50, Try.ntmps50
      go_wp2_with fail
      refine (implCmpF_any f f' _ hf hg).mono ?_
      rintro r w1 ⟨rfl, rfl⟩
      go_wp2_with fail
      go_ret
      exact ⟨ret_int (unhide E).symm, ((Below.refl _ _).alloc (Nat.le_refl _) _).alloc (by simp) _⟩
    have E := hide (show cmpD ⟨k, n, f, t⟩ ⟨k, n', f', t'⟩ = cmpT t t' by simp [cmpD, h1, h2])
    have q1 : (k == 1) = false := by simp [h1]
    have q2 : (k == 2) = false := by simp [h2]
    clear h1 h2
    go_enter Try.func50, Try.ntmps50
    go_wp2_with fail
    refine (stringsCmp_any t t' _).mono ?_
    rintro r w1 ⟨rfl, rfl⟩
    go_wp2_with fail
    go_ret
    exact ⟨ret_int (unhide E).symm, ((Below.refl _ _).alloc (Nat.le_refl _) _).alloc (by simp) _⟩
  · have E := hide (show cmpD ⟨k, n, f, t⟩ ⟨k', n', f', t'⟩ = cmpI k k' by simp [cmpD, hk])
    have q1 : (k != k') = true := by simp [hk]
    clear hk
    go_enter Try.func50, Try.ntmps50
    go_wp2_with fail
    refine (cmpInt_any k k' _).mono ?_
    rintro r w1 ⟨rfl, rfl⟩
    go_wp2_with fail
    go_ret
    exact ⟨ret_int (unhide E).symm, ((Below.refl _ _).alloc (Nat.le_refl _) _).alloc (by simp) _⟩

set_option maxHeartbeats 1000000 in
theorem l01Compare_any (d e : PartD) (w : World) (hf : d.f < 18446744073709551616) (hg : e.f < 18446744073709551616) :
    Calls Try.prog 53 #[pv d, pv e] w fun r w' => r = .returned (.int .i64 (cmpD d e)) ∧ Below w.heap.size w w' := by
  obtain ⟨k, n, f, t⟩ := d
  obtain ⟨k', n', f', t'⟩ := e
  simp only at hf hg
  by_cases hk : k = k'
  · subst hk
    by_cases h1 : k = 1
    · subst h1
      have E := hide (show sgn (decide (n < n')) (decide (n' < n)) = cmpD ⟨1, n, f, t⟩ ⟨1, n', f', t'⟩ by rw [cmpI_sign]; simp [cmpD])
      go_enter Try.func53, Try.ntmps53
      go_wp2_with fail
      refine (sign_any _ _ _).mono ?_
      rintro r w1 ⟨rfl, rfl⟩
      go_wp2_with fail
      go_ret
      exact ⟨ret_int (unhide E), ((Below.refl _ _).alloc (Nat.le_refl _) _).alloc (by simp) _⟩
    by_cases h2 : k = 2
    · subst h2
      have E := hide (show cmpD ⟨2, n, f, t⟩ ⟨2, n', f', t'⟩ = cmpI (frank f) (frank f') by simp [cmpD])
      go_enter Try.func53, Try.ntmps53
      go_wp2_with fail
      refine (specCmpF_any f f' _ hf hg).mono ?_
      rintro r w1 ⟨rfl, rfl⟩
      go_wp2_with fail
      go_ret
      exact ⟨ret_int (unhide E).symm, ((Below.refl _ _).alloc (Nat.le_refl _) _).alloc (by simp) _⟩
    have E := hide (show sgn (Op.bytesLess t.toList t'.toList) (!Op.bytesLess t.toList t'.toList && !(t.toList == t'.toList)) = cmpD ⟨k, n, f, t⟩ ⟨k, n', f', t'⟩ by rw [← less_turn]; simp [cmpD, h1, h2, cmpT, sgn])
    have q1 : (k == 1) = false := by simp [h1]
    have q2 : (k == 2) = false := by simp [h2]
    clear h1 h2
    go_enter Try.func53, Try.ntmps53
    go_wp2_with fail
    refine (sign_any _ _ _).mono ?_
    rintro r w1 ⟨rfl, rfl⟩
    go_wp2_with fail
    go_ret
    exact ⟨ret_int (unhide E), ((Below.refl _ _).alloc (Nat.le_refl _) _).alloc (by simp) _⟩
  · have E := hide (show sgn (decide (k < k')) true = cmpD ⟨k, n, f, t⟩ ⟨k', n', f', t'⟩ by rw [cmpI_sign' hk]; simp [cmpD, hk])
    have q1 : (k != k') = true := by simp [hk]
    clear hk
    go_enter Try.func53, Try.ntmps53
    go_wp2_with fail
    refine (sign_any _ _ _).mono ?_
    rintro r w1 ⟨rfl, rfl⟩
    go_wp2_with fail
    go_ret
    exact ⟨ret_int (unhide E), ((Below.refl _ _).alloc (Nat.le_refl _) _).alloc (by simp) _⟩
end Go.Proofs.Ytgifcaeemfaihaa
